/- MuPIter, MuRSame, TypedN, TypedM, put together. -/
import Derived.Test.YtgaadndhecokfaaMu20
import Derived.Test.YtgaadndhecokfaaMu21
import Derived.RangeFuncNested
import Derived.RangeFuncBound
import Derived.RangeFuncCalls
import Derived.RangeFuncLeaves
import Derived.Shelf.Abstract
import Derived.Shelf.RegionOpen
import Derived.OwnWalkIn
import Derived.TacticsInMore
import Derived.LoopNIn
import Derived.LoopIn
import Derived.Carry
import Derived.Test.YtgaadndhecokfaaMu15
/- The contract of the iterator munch.pieces. -/
namespace Go.Proofs.Ytgaadndhecokfaa
open Go.RowKit Go.Lib Go.Joins Go.Shelf
attribute [local go_sem] Oper.semAt_some

section
variable {F : Fence} {n : Nat} {ops : Array Oper} {rest : List Oper} {o : Oper} {a : Act} {Q : Exit → Act → World → Prop} {w : World} {B : Nat}
/-- a whole struct is loaded, inside a fence -/
theorem wpListIn_load_is (hgd : o.guard = none) {t : TypeId} {x : Operand} (ho : o.op = .load t x) (hx : a.eval x = .pointer (some ⟨B, 0, none⟩)) {v : Value} (hr : (loadVar t ⟨B, 0, none⟩).run Try.prog w = .ok v w)
    (h : wpListIn F n Try.prog ops Q rest (a.put o.dst v) w) : wpListIn F n Try.prog ops Q (o :: rest) a w := by
  refine wpListIn_plain hgd fun K hK => ?_
  unfold Oper.wpIn
  refine ⟨by simp [Oper.about, ho], ?_⟩
  rw [Oper.semAt_plain F _ _ (by rw [ho]; intro c hc'; cases hc')]
  simp only [execOp, ho, hx, Instr.loadAt, Instr.sureAddr, Sem.run_bind, Sem.run_pure, Result.andThen_ok, hr]
  exact hK _ _ h
/-- a whole struct is stored, inside a fence -/
theorem wpListIn_store_is (hgd : o.guard = none) {t : TypeId} {x y : Operand} (ho : o.op = .store t x y) (hx : a.eval x = .pointer (some ⟨B, 0, none⟩)) {w' : World} (hr : (storeVar t ⟨B, 0, none⟩ (a.eval y)).run Try.prog w = .ok () w')
    (h : wpListIn F n Try.prog ops Q rest (a.put o.dst undef) w') : wpListIn F n Try.prog ops Q (o :: rest) a w := by
  refine wpListIn_plain hgd fun K hK => ?_
  unfold Oper.wpIn
  refine ⟨by simp [Oper.about, ho], ?_⟩
  rw [Oper.semAt_plain F _ _ (by rw [ho]; intro c hc'; cases hc')]
  simp only [execOp, ho, hx, Instr.storeAt, Instr.sureAddr, Sem.run_bind, Sem.run_pure, Result.andThen_ok, hr]
  exact hK _ _ h
/-- a struct is put together, inside a fence -/
theorem wpListIn_build3 (hgd : o.guard = none) {t : TypeId} {x y z : Operand} {i j k : Nat} (ho : o.op = .build t #[(i, x), (j, y), (k, z)]) {v u r : Value} (hx : a.eval x = v) (hy : a.eval y = u) (hz : a.eval z = r) {W : Value} (hr : (Instr.build t #[(i, v), (j, u), (k, r)]).run Try.prog w = .ok W w)
    (h : wpListIn F n Try.prog ops Q rest (a.put o.dst W) w) : wpListIn F n Try.prog ops Q (o :: rest) a w := by
  refine wpListIn_plain hgd fun K hK => ?_
  unfold Oper.wpIn
  refine ⟨by simp [Oper.about, ho], ?_⟩
  rw [Oper.semAt_plain F _ _ (by rw [ho]; intro c hc'; cases hc')]
  simp only [execOp, ho, List.map_toArray, List.map_cons, List.map_nil, hx, hy, hz, Sem.run_bind, Result.andThen_ok, hr]
  exact hK _ _ h
/-- the walk stands still here -/
@[irreducible] def StopIn (F : Fence) (n : Nat) (ops : Array Oper) (Q : Exit → Act → World → Prop) (l : List Oper) (a : Act) (w : World) : Prop := wpListIn F n Try.prog ops Q l a w
theorem stop_build {t : TypeId} {x : Array (Nat × Operand)} (_ho : o.op = .build t x) (h : StopIn F n ops Q (o :: rest) a w) : wpListIn F n Try.prog ops Q (o :: rest) a w := by unfold StopIn at h; exact h
theorem stop_store {t : TypeId} {x y : Operand} (_ho : o.op = .store t x y) (h : StopIn F n ops Q (o :: rest) a w) : wpListIn F n Try.prog ops Q (o :: rest) a w := by unfold StopIn at h; exact h
theorem store_lexIn {g h : Nat → Nat} {wd wd' : Int} {vn vl vn' vl' : Value} {s s' : ByteArray} {m m' : Option Nat} (hgd : o.guard = none) {x y : Operand} (ho : o.op = .store 98 x y)
    (hx : a.eval x = .pointer (some ⟨B, 0, none⟩)) (hy : a.eval y = .agg (lexC h wd' vn' vl' s' m')) (hA : LexAt w B g wd vn vl s m) (h1 : vn'.oneCell' = true) (h2 : vl'.oneCell' = true)
    (hk : ∀ w', LexAt w' B h wd' vn' vl' s' m' → w.grownBy w' (some B) → w'.heap.size = w.heap.size → wpListIn F n Try.prog ops Q rest (a.put o.dst undef) w') : wpListIn F n Try.prog ops Q (o :: rest) a w :=
  wpListIn_store_is hgd ho hx (by rw [hy]; exact run_storeVar_row w B 98 98 _ _ hA (by rw [lexC_size]; exact size_lex) (by rw [lexC_size, lexC_size]) (lexC_one h wd' s' m' h1 h2))
    (hk _ (setRow_heap w B _ _ _ _ hA) ⟨rfl, rfl, rfl, by simp, fun k _ hne => setRow_other w B k _ (by simpa using hne)⟩ (by simp))
end
def encPc (x : Pc) : Array Value := #[.agg #[.int .i64 x.1, .string x.2]]
/-- blocks below n lie as they lay, and lexers -/
structure KeepX (n : Nat) (W W' : World) : Prop where
  below : Below n W W'
  lex : ∀ (k : Nat) (cs : Array Value), W.heap[k]? = some (.cells cs 98 (0, 0)) → W'.heap[k]? = W.heap[k]?
theorem KeepX.refl (n : Nat) (W : World) : KeepX n W W := ⟨Below.refl _ _, fun _ _ _ => rfl⟩
theorem KeepX.trans {n : Nat} {A B C : World} (h : KeepX n A B) (k : KeepX n B C) : KeepX n A C := ⟨h.below.trans k.below, fun j cs hj => (k.lex j cs ((h.lex j cs hj).trans hj)).trans (h.lex j cs hj)⟩
theorem KeepX.later {n : Nat} {W W' : World} (hn : n ≤ W.heap.size) (h : Below W.heap.size W W') : KeepX n W W' := ⟨h.mono hn, fun k _ hk => h.block k (Array.getElem?_eq_some_iff.1 hk).1⟩
theorem KeepX.put {n : Nat} {w : World} (hn : n ≤ w.heap.size) (W : World) (l : Nat) (o o' : Obj) (hl : w.heap.size ≤ l) (h1 : W.heap[l]? = some o) (h2 : o.isCells = false) (h3 : o.isWalk = false) : KeepX n W (W.putObj l o') :=
  ⟨⟨rfl, rfl, rfl, (grownBy_putObj' W l o').size, fun k hk => World.putObj_heap_other (by omega)⟩, fun k cs hk => World.putObj_heap_other (fun e => by subst e; rw [h1] at hk; cases hk; cases h2)⟩
theorem below_grown16 {W W' : World} (h : Below W.heap.size W W') : W.grownBy W' none := ⟨h.os, h.tape, h.output, h.size, fun k hk _ => h.block k hk⟩

set_option maxRecDepth 100000 in
set_option maxHeartbeats 8000000 in
theorem pieces_in (n : Nat) (hn : 1 ≤ n) (l Bd Bs n1 : Nat) (s : ByteArray) (D : DfaM) (vn vl : Value) (hs : s.size ≤ 200) (J Jx : List Pc → World → Prop)
    (hY : ∀ pre x W, J pre W → pre.length < (cutS D s).length → YieldAt Fence.wide (n - 1) Try.prog l (encPc x) W fun e W' =>
      (e = .returned (.bool true) ∧ J (pre ++ [x]) W' ∧ KeepX n1 W W') ∨ (e = .returned (.bool false) ∧ Jx (pre ++ [x]) W'))
    (hJ : ∀ pre W W', J pre W → W.grownBy W' none → J pre W')
    (W : World) (h1 : Bs < n1) (h2 : n1 ≤ W.heap.size) (hBd : DfaAt W Bd D.cls D.width vn vl) (hBs : W.cell? ⟨Bs, 0, none⟩ = some (.string s)) (hD : RdDfa n1 W vn vl D) (h0 : J [] W) :
    CallsIn Fence.wide n Try.prog 46 #[.func (.yield l) #[] #[], .pointer (some ⟨Bd, 0, none⟩), .pointer (some ⟨Bs, 0, none⟩)] W fun e W' => (∃ v, e = .returned v) ∧
      ((∃ ys, ys = cutS D s ∧ J ys W') ∨ (∃ pre, pre <+: cutS D s ∧ Jx pre W')) := by
  have HR := hidden (right14_calls (hD.below (Below.refl _ _) h2))
  obtain ⟨an, cn, rfl⟩ := hD.next.form
  obtain ⟨al, cl, rfl⟩ := hD.label.form
  have HRD := hidden hD
  have HX := hidden hBd
  have hld := run_load_dfa hBd
  have hal := run_zero_lex
  have hmm := @run_makeMap Try.prog
  refine callsIn_of_wp Try.func46 rfl trivial ?_ rfl
  simp only [Try.ntmps46, List.size_toArray, List.length_cons, List.length_nil, Nat.reduceAdd, Nat.reduceSub, Array.replicate_succ, Array.replicate_zero, List.push_toArray, List.append_toArray, List.nil_append, List.cons_append]
  clear hBd hD hld
  cases hr : rightD D with
  | false =>
    have HV := hidden (show [] = cutS D s by unfold cutS; rw [if_neg (by simp [hr])])
    rw [hr] at HR
    clear hr hal hmm
    gi_wp2_with (first
      | (refine wpListIn_load_is rfl (x := .tmp 1) rfl rfl (run_load_dfa HX.out) ?_)
      | (refine ⟨trivial, ?_⟩; gi_at_call 47; refine (callsIn_wide.2 HR.out).mono ?_))
    rintro e w1 ⟨rfl, hb1⟩
    have hJ1 := hJ _ _ _ h0 (below_grown16 hb1)
    gi_wp2
    refine bodyPost_ret (results_none rfl _ _ _) rfl ?_
    exact ⟨⟨_, rfl⟩, .inl ⟨_, HV.out, hJ1⟩⟩
  | true =>
    have HV := hidden (show cutS D s = (cutP D s.data.toList).map pk by unfold cutS; rw [if_pos hr])
    have HMO := hidden (fun (k : Nat) (pre : List Pc) => cut_more (D := D) (s := s) (k := k) (pre := pre))
    have HRT := hidden hr
    rw [hr] at HR
    have HW := hidden h2
    have HS1 := hidden h1
    have HCS := hidden hBs
    have HJ0 := hidden h0
    rw [HV.out]
    rw [HV.out] at hY
    obtain ⟨L, hL⟩ : ∃ L, L = (cutP D s.data.toList).map pk := ⟨_, rfl⟩
    rw [← hL]
    rw [← hL] at hY HV HMO
    have HLE := hidden hL
    clear hL
    have HY := hidden hY
    have HJ := hidden hJ
    clear hr h1 h2 hBs h0 hY hJ
    gi_wp2_with (first
      | (refine wpListIn_load_is rfl (x := .tmp 1) rfl rfl (run_load_dfa HX.out) ?_)
      | (refine ⟨trivial, ?_⟩; gi_at_call 47; refine (callsIn_wide.2 HR.out).mono ?_))
    rintro e w1 ⟨rfl, hb1⟩
    have HB1 := hidden hb1
    have HX1 := hidden (HX.out.below hb1)
    have c1 := (hb1.cell (p := ⟨Bs, 0, none⟩) (Nat.lt_of_lt_of_le HS1.out HW.out)).trans HCS.out
    have HBU := hidden (fun W => run_build_lex D.cls D.width an al D.next.length cn D.label.length cl s w1.heap.size W)
    clear hb1
    gi_wp2_with (first
      | (refine wpListIn_load_is rfl (x := .tmp 1) rfl rfl (run_load_dfa HX1.out) ?_)
      | (refine stop_build rfl ?_))
    unfold StopIn
    refine wpListIn_build3 rfl (x := .tmp 11) (y := .tmp 12) (z := .tmp 13) rfl rfl rfl rfl (HBU.out _) ?_
    simp only [Act.put, List.setIfInBounds_toArray, List.set_cons_zero, List.set_cons_succ]
    gi_wp2_with (refine stop_store rfl ?_)
    unfold StopIn
    refine store_lexIn rfl (x := .tmp 4) (y := .tmp 14) rfl rfl rfl (LexAt.newAt (by simp)) rfl rfl ?_
    intro w5 hA5 hg5 hs5
    simp only [Act.put]
    have HA5 := hidden hA5
    have HB5 := hidden (Below.grown (((Below.refl w1.heap.size w1).alloc (Nat.le_refl _) _).alloc (by simp) _) hg5 (by simp; omega) (by intro k hk; simp only [Option.some.injEq] at hk; omega))
    clear hA5 hg5 hs5
    gi_wp2
    have hL5 := HA5.out
    have HX5 := hidden (below_then HB1.out HB1.out.size HB5.out)
    have HJ5 := hidden (HJ.out _ _ _ HJ0.out (below_grown16 HX5.out))
    have HC5 := hidden ((HX5.out.cell (p := ⟨Bs, 0, none⟩) (Nat.lt_of_lt_of_le HS1.out HW.out)).trans HCS.out)
    have HR5 := hidden (HRD.out.below (HX5.out.mono HW.out) (Nat.le_refl _))
    have HZ5 := hidden (Nat.le_trans HW.out HX5.out.size)
    obtain ⟨B, hB⟩ : ∃ B, B = w1.heap.size + 1 := ⟨_, rfl⟩
    have HM := hidden (⟨w1.heap.size, rfl⟩ : ∃ mp, mp = w1.heap.size)
    obtain ⟨mp, hmp⟩ := HM.out
    rw [← hB, ← hmp]
    rw [← hB, ← hmp] at hL5
    have HL5 := hidden hL5
    clear hL5 hB hmp HA5 HB5 HJ0 HB1 HX1 HBU hal hmm c1 HM
    gi_loopw [5, 6, 7] (fun i _ _ wr => ∃ (k : Nat) (pre : List Pc), k ≤ s.size ∧ i = .int .i64 k ∧ Hid (L = pre ++ (cutP D (s.data.toList.drop k)).map pk) ∧ J pre wr ∧ KeepX n1 w5 wr) (fun i _ _ _ => s.size - (Go.RowKit.intOf i).toNat)
    case atStart => exact ⟨0, [], by omega, rfl, hidden HLE.out, HJ5.out, KeepX.refl _ _⟩
    case round =>
      obtain ⟨k, pre, hk, rfl, HPR, hJs, hkx⟩ := hrel
      have HJR := hidden hJs
      have HKX := hidden hkx
      have hcs := (hkx.below.cell (p := ⟨Bs, 0, none⟩) HS1.out).trans HC5.out
      clear hJs hkx
      by_cases hlt : k < s.size
      · obtain ⟨h1, h2, h3, h4⟩ := HMO.out k pre hlt HPR.out
        have hLr := (HKX.out.lex B _ HL5.out).trans HL5.out
        have HN := hidden (lnext_calls k hLr ((HR5.out.below HKX.out.below (Nat.le_refl _)).below (Below.refl _ _) (Nat.le_trans HZ5.out HKX.out.below.size)) HRT.out hs hlt)
        have HYX := hidden (fun x W hJ => HY.out pre x W hJ h4)
        have H3 := hidden h3
        obtain ⟨m, hm⟩ : ∃ m, m = (nxP D (s.data.toList.drop k)).2 := ⟨_, rfl⟩
        obtain ⟨t, ht⟩ : ∃ t, t = (nxP D (s.data.toList.drop k)).1 := ⟨_, rfl⟩
        rw [← hm] at h1 h2 H3 HN
        rw [← ht] at H3 HN
        obtain ⟨q, hq⟩ : ∃ q, q = k + m := ⟨_, rfl⟩
        have hqi : (k : Int) + (m : Int) = (q : Int) := by omega
        rw [← hq] at H3
        rw [hqi] at HN
        have hsl : ∀ W : World, (Instr.slice 9 (.string s) (some (.int .i64 (k : Int))) (some (.int .i64 (q : Int))) none).run Try.prog W = .ok (.string (s.extract k q)) W := fun W => by
          rw [run_slice_string W 9 s .i64 .i64 (k : Int) (q : Int) Try.underlying9 (by omega) (by omega) (by omega), Int.toNat_natCast, Int.toNat_natCast]
        obtain ⟨x, hx⟩ : ∃ x, x = s.extract k q := ⟨_, rfl⟩
        rw [← hx] at H3 hsl
        have hqs : q ≤ s.size := by omega
        have hkq : k < q := by omega
        have HPP := hidden (show pre ++ [(t, x)] <+: L from ⟨_, H3.out.symm⟩)
        clear hm ht hq hqi hx h1 h2 h3 h4 hLr
        gi_wp2_with (refine ⟨trivial, ?_⟩; gi_at_call 48; refine (callsIn_wide.2 HN.out).mono ?_)
        rintro e w6 ⟨rfl, hb6⟩
        have HK6 := hidden (HKX.out.trans (KeepX.later (Nat.le_trans HZ5.out HKX.out.below.size) hb6))
        have hc6 := (HK6.out.below.cell (p := ⟨Bs, 0, none⟩) HS1.out).trans HC5.out
        have hJ6 := HJ.out _ _ _ HJR.out (below_grown16 hb6)
        obtain ⟨fn, tmps, assign, body, hy, hR⟩ := HYX.out (t, x) w6 hJ6
        dsimp only [encPc] at hy
        clear hb6 hcs hJ6
        gi_wp2
        refine hR.mono ?_
        rintro e W3 (⟨rfl, hJ3, hk3⟩ | ⟨rfl, hJx3⟩)
        · gi_wp2
          go_roundw
          case rel => exact ⟨q, pre ++ [(t, x)], hqs, rfl, H3, hJ3, HK6.out.trans hk3⟩
          case measure => show s.size - (q : Int).toNat < s.size - (k : Int).toNat; omega
        · gi_wp2
          refine bodyPost_ret (results_none rfl _ _ _) rfl ?_
          exact ⟨⟨_, rfl⟩, .inr ⟨_, HPP.out, hJx3⟩⟩
      · obtain rfl : k = s.size := by omega
        have HE := hidden (show pre = L from by rw [HPR.out, List.drop_eq_nil_of_le (by rw [list_len]; exact Nat.le_refl _), cut_nil]; simp)
        gi_wp2
        go_end0
        exact ⟨⟨_, rfl⟩, .inl ⟨_, HE.out, HJR.out⟩⟩
end Go.Proofs.Ytgaadndhecokfaa

/- Contracts of the reference's Same and Join of pieces. -/
namespace Go.Proofs.Ytgaadndhecokfaa
open Go.RowKit Go.Lib Go.Joins

theorem take_pc (l : List Pc) (k : Nat) (h : k < l.length) : l.take (k + 1) = l.take k ++ [l.getD k (0, ⟨#[]⟩)] := by
  rw [List.take_add_one, List.getD_eq_getElem?_getD, List.getElem?_eq_getElem h]
  rfl
theorem take_eqp {a b : List Pc} (h : a.length = b.length) (k : Nat) (hk : k < a.length) (h2 : a.take k = b.take k) :
    (a.getD k (0, ⟨#[]⟩) = b.getD k (0, ⟨#[]⟩) → a.take (k + 1) = b.take (k + 1)) ∧ (a.getD k (0, ⟨#[]⟩) ≠ b.getD k (0, ⟨#[]⟩) → sameP a b = false) := by
  refine ⟨fun e => ?_, fun e => decide_eq_false fun e' => e (by rw [e'])⟩
  rw [take_pc a k hk, take_pc b k (by omega), h2, e]
set_option maxHeartbeats 2000000 in
set_option maxRecDepth 100000 in
theorem rsame16_calls {w : World} {va vb : Value} {la lb : List Pc} (ha : RdP w.heap.size w va la) (hb : RdP w.heap.size w vb lb) :
    Calls Try.prog 12 #[va, vb] w fun e w' => e = .returned (.bool (sameP la lb)) ∧ Below w.heap.size w w' := by
  obtain ⟨a, ca, rfl, a1, a2⟩ := ha.form
  obtain ⟨b, cb, rfl, b1, b2⟩ := hb.form
  have HA := hidden ha
  have HB := hidden hb
  by_cases hl : la.length = lb.length
  case neg =>
    have HF := hidden (show sameP la lb = false from decide_eq_false fun e => hl (by rw [e]))
    obtain ⟨m, hm⟩ : ∃ m, m = la.length := ⟨_, rfl⟩
    obtain ⟨n, hn⟩ : ∃ n, n = lb.length := ⟨_, rfl⟩
    rw [← hm] at hl ⊢
    rw [← hn] at hl ⊢
    have q1 : ((m : Int) == (n : Int)) = false := by simp; omega
    have q2 : ((m : Int) != (n : Int)) = true := by simp; omega
    have q3 : (m == n) = false := by simp; omega
    clear ha hb a1 a2 b1 b2 hm hn
    have HLN := hidden hl
    clear hl
    go_enter Try.func12, Try.ntmps12
    go_wp2
    rw [HF.out]
    go_ret
    exact ⟨rfl, Below.refl _ _⟩
  have HST := hidden (fun k (hk : k < la.length) (h2 : la.take k = lb.take k) => take_eqp hl k hk h2)
  have HEND := hidden (fun (h2 : la.take la.length = lb.take la.length) => (show sameP la lb = true from decide_eq_true (by rw [List.take_of_length_le (Nat.le_refl _), List.take_of_length_le (by omega)] at h2; exact h2)))
  have HAT := hidden (fun (W : World) (hw : Below w.heap.size w W) i hi => HA.out.at hw i hi)
  have HBT := hidden (fun (W : World) (hw : Below w.heap.size w W) i (hi : i < la.length) => HB.out.at hw i (by omega))
  obtain ⟨m, hm⟩ : ∃ m, m = la.length := ⟨_, rfl⟩
  unfold maxLen at a2
  rw [← hl, ← hm]
  rw [← hm] at HST HEND HAT HBT a1
  rw [← hl, ← hm] at b1
  clear ha hb HA HB hl hm
  go_enter Try.func12, Try.ntmps12
  go_wp2
  go_loopw [5] (fun i wr => ∃ k : Nat, k ≤ m ∧ i = .int .i64 k ∧ Hid (la.take k = lb.take k) ∧ Below w.heap.size w wr) (fun i _ => m - (Go.RowKit.intOf i).toNat)
  case atStart => exact ⟨0, by omega, rfl, hidden rfl, Below.refl _ _⟩
  case round =>
    obtain ⟨k, hk, rfl, HK, hb⟩ := hrel
    have HBW := hidden hb
    clear hb
    by_cases hlt : k < m
    · obtain ⟨xb, xo, rfl, hx, x1, x2⟩ := HAT.out wr HBW.out k hlt
      obtain ⟨yb, yo, rfl, hy, y1, y2⟩ := HBT.out wr HBW.out k hlt
      have H1 := hidden (HST.out k hlt HK.out)
      obtain ⟨P, hP⟩ : ∃ P, P = la.getD k (0, ⟨#[]⟩) := ⟨_, rfl⟩
      obtain ⟨Q, hQ⟩ : ∃ Q, Q = lb.getD k (0, ⟨#[]⟩) := ⟨_, rfl⟩
      rw [← hP] at x1 x2
      rw [← hQ] at y1 y2
      rw [← hP, ← hQ] at H1
      obtain ⟨t, s⟩ := P
      obtain ⟨u, r⟩ := Q
      dsimp only at x1 x2 y1 y2
      have c1 := fun (p : Later wr) => Later.cell x1 (cell_lt x1) p
      have c2 := fun (p : Later wr) => Later.cell x2 (cell_lt x2) p
      have c3 := fun (p : Later wr) => Later.cell y1 (cell_lt y1) p
      have c4 := fun (p : Later wr) => Later.cell y2 (cell_lt y2) p
      have hki : (k : Int) < (m : Int) := by omega
      clear hP hQ x1 x2 y1 y2
      by_cases he : t = u ∧ s = r
      · obtain ⟨rfl, rfl⟩ := he
        have HN := hidden (H1.out.1 rfl)
        clear H1
        go_wp2
        refine wp_region_later (by kernel_rfl) (by kernel_rfl) ?_
        repeat (go_big_quiet_step (fail))
        refine wpQuiet_nil ?_
        rintro _ ⟨⟨_, hb5⟩, rfl⟩
        rename_i w5
        have HB5 := hidden (below_then HBW.out HBW.out.size hb5)
        clear hb5
        go_wp2
        go_roundw
        case rel => exact ⟨k + 1, by omega, by go_num, HN, HB5.out⟩
        case measure => simp [Go.RowKit.intOf]; omega
      · have HF := hidden (H1.out.2 (fun e => he (by injection e with e1 e2; exact ⟨e1, e2⟩)))
        have HNE := hidden he
        clear H1 he
        by_cases htu : t = u
        · subst htu
          have hsr : ¬ s = r := fun e => HNE.out ⟨rfl, e⟩
          have q2 : (s.toList == r.toList) = false := by
            rw [beq_eq_false_iff_ne]
            intro e
            rw [ByteArray.toList_eq, ByteArray.toList_eq] at e
            exact hsr (ByteArray.ext (Array.ext' e))
          have q1 : (s == r) = false := by rw [beq_toListBytes]; exact q2
          clear hsr
          go_wp2
          refine wp_region_later (by kernel_rfl) (by kernel_rfl) ?_
          repeat (go_big_quiet_step (fail))
          refine wpQuiet_nil ?_
          rintro _ ⟨⟨_, hb5⟩, rfl⟩
          rename_i w5
          go_wp2
          rw [HF.out]
          go_ret
          exact ⟨rfl, below_then HBW.out HBW.out.size hb5⟩
        · have q1 : (t == u) = false := by simpa using htu
          clear htu
          go_wp2
          refine wp_region_later (by kernel_rfl) (by kernel_rfl) ?_
          repeat (go_big_quiet_step (fail))
          refine wpQuiet_nil ?_
          rintro _ ⟨⟨_, hb5⟩, rfl⟩
          rename_i w5
          go_wp2
          rw [HF.out]
          go_ret
          exact ⟨rfl, below_then HBW.out HBW.out.size hb5⟩
    · obtain rfl : k = m := by omega
      have HF := hidden (HEND.out HK.out)
      go_wp2
      rw [HF.out]
      go_ret
      exact ⟨rfl, HBW.out⟩
theorem join_take (l : List Pc) (k : Nat) (h : k < l.length) : joinS (l.take (k + 1)) = joinS (l.take k) ++ (l.getD k (0, ⟨#[]⟩)).2 := by
  rw [take_pc l k h]
  unfold joinS
  rw [List.flatMap_append, ← txt_add]
  simp [txt_list]
theorem join_prefix (l : List Pc) (k : Nat) : (joinS (l.take k)).size ≤ (joinS l).size := by
  unfold joinS
  rw [txt_size, txt_size]
  conv => rhs; rw [← List.take_append_drop k l, List.flatMap_append, List.length_append]
  omega
set_option maxHeartbeats 2000000 in
set_option maxRecDepth 100000 in
theorem rjoin16_calls {w : World} {v : Value} {l : List Pc} (h : RdP w.heap.size w v l) (hs : (joinS l).size ≤ 100000) :
    Calls Try.prog 15 #[v] w fun e w' => e = .returned (.string (joinS l)) ∧ Below w.heap.size w w' := by
  obtain ⟨a, ca, rfl, a1, a2⟩ := h.form
  have HAT := hidden (fun (W : World) (hw : Below w.heap.size w W) i hi => h.at hw i hi)
  have HT := hidden (fun k hk => join_take l k hk)
  have HP := hidden (fun k => Nat.le_trans (join_prefix l k) hs)
  have HE := hidden (show joinS (l.take l.length) = joinS l by rw [List.take_of_length_le (Nat.le_refl _)])
  obtain ⟨m, hm⟩ : ∃ m, m = l.length := ⟨_, rfl⟩
  unfold maxLen at a2
  rw [← hm] at HAT HT HE a1 ⊢
  clear h hm hs
  go_enter Try.func15, Try.ntmps15
  go_wp2
  go_loopw [3, 4] (fun x i wr => ∃ k : Nat, k ≤ m ∧ i = .int .i64 k ∧ x = .string (joinS (l.take k)) ∧ Below w.heap.size w wr) (fun _ i _ => m - (Go.RowKit.intOf i).toNat)
  case atStart => exact ⟨0, by omega, rfl, rfl, Below.refl _ _⟩
  case round =>
    obtain ⟨k, hk, rfl, rfl, hb⟩ := hrel
    have HBW := hidden hb
    clear hb
    by_cases hlt : k < m
    · obtain ⟨xb, xo, rfl, hx, x1, x2⟩ := HAT.out wr HBW.out k hlt
      have HTK := hidden (HT.out k hlt)
      have hsz := HP.out k
      obtain ⟨t, ht⟩ : ∃ t, t = (l.getD k (0, ⟨#[]⟩)).2 := ⟨_, rfl⟩
      obtain ⟨z, hz⟩ : ∃ z, z = joinS (l.take k) := ⟨_, rfl⟩
      rw [← ht] at x2 HTK
      rw [← hz] at HTK hsz ⊢
      have hki : (k : Int) < (m : Int) := by omega
      clear ht hz x1
      have hs2 : z.size + t.size ≤ 100000 := by
        have h1 := HP.out (k + 1)
        rw [HTK.out, ByteArray.size_append] at h1
        exact h1
      have hs3 : ¬ 9223372036854775807 < z.size + t.size := by omega
      clear hsz hs2
      go_wp2
      go_roundw
      case rel => exact ⟨k + 1, by omega, by go_num, by rw [HTK.out], HBW.out⟩
      case measure => simp [Go.RowKit.intOf]; omega
    · obtain rfl : k = m := by omega
      go_wp2
      rw [HE.out]
      go_ret
      exact ⟨rfl, HBW.out⟩
end Go.Proofs.Ytgaadndhecokfaa

/- A region that draws its order, met operation by operation, with guards of any value; a guard's own operation may have been passed over. -/
namespace Go.Proofs.Ytgaadndhecokfaa.Rl
open Go.RowKit

section
variable {R : World → World → Prop} {P : Program} {ops : Array Oper} {Q : Exit → Act → World → Prop} {T : Nat → Value → World → Prop} {W : World → Prop} {a0 : Act}
/-- one operation, guarded or not: what its guard holds is known, or that it holds nothing; where it is passed over, its slot may hold nothing -/
def StepN (R : World → World → Prop) (P : Program) (ops : Array Oper) (a0 : Act) (T : Nat → Value → World → Prop) (W : World → Prop) (j : Nat) (o : Oper) : Prop :=
  match o.guard with
  | none => StepOk R P ops a0 T W j o
  | some (g, b) => (∃ x : Bool, (∀ v w, T g v w → v = .bool x) ∧ (x = b → StepOk R P ops a0 T W j o) ∧ (x ≠ b → ∀ w, T j undef w)) ∨ ((∀ v w, T g v w → v = undef) ∧ ∀ w, T j undef w)
theorem stepN_op (hRr : ∀ w, R w w) {j : Nat} {o : Oper} {a : Act} {w1 : World} (hcov : covered ops = true) (hs : Region.noSelect ops = true) (ho : ops[j]? = some o) (hst : Still ops a0 a) (ha : Ahead ops T o a w1) (hW : W w1) (hst1 : StepN R P ops a0 T W j o) : wpOp P ops Q j (Leaves R T W j o a w1) a w1 := by
  have hc := Array.all_eq_true_iff_forall_mem.1 hcov o (Array.mem_of_getElem? ho)
  simp only [Bool.and_eq_true] at hc
  have wait : ∀ i d, waits o i = true → (ops[i]?).bind (·.dst) = some d → T i (a.tmps.getD d undef) w1 := fun i d hwt hd => by
    unfold waits at hwt
    obtain ⟨e, he, h1⟩ := Array.any_eq_true'.1 hwt
    simp only [Bool.and_eq_true, beq_iff_eq] at h1
    obtain ⟨rfl, h2⟩ := h1
    exact ha e he h2 d hd
  have facts : ∀ t ∈ reads o, Fact ops a0 T t (a.tmps.getD t undef) w1 := fun t ht => by
    have h1 := List.all_eq_true.1 hc.1 t ht
    unfold Fact
    cases hsrc : srcOf ops t with
    | none =>
      refine hst.slot t ?_
      rw [Array.all_eq_true_iff_forall_mem]
      intro o' ho'
      obtain ⟨i, hi, rfl⟩ := Array.mem_iff_getElem.1 ho'
      unfold srcOf at hsrc
      have := List.find?_eq_none.1 hsrc i (List.mem_range.2 hi)
      rw [Array.getElem?_eq_getElem hi] at this
      simpa using this
    | some i =>
      rw [hsrc] at h1
      refine wait i t h1 ?_
      unfold srcOf at hsrc
      simpa using List.find?_some hsrc
  have run : Region.wanted o (yielded ops a.tmps) = true → StepOk R P ops a0 T W j o → wpOp P ops Q j (Leaves R T W j o a w1) a w1 := fun hg hst2 =>
    does_wpOp ho (fun cs b => Region.noSelect_spec hs j o cs b ho) (ρ := fun t => a.tmps.getD t undef) (fun t _ => rfl) hg (hst2 _ w1 facts hW)
  cases hgd : o.guard with
  | none =>
    unfold StepN at hst1
    rw [hgd] at hst1
    exact run (by unfold Region.wanted; rw [hgd]) hst1
  | some gb =>
    obtain ⟨g, b⟩ := gb
    unfold StepN at hst1
    rw [hgd] at hst1
    have hc2 := hc.2
    rw [hgd] at hc2
    simp only [Bool.and_eq_true] at hc2
    obtain ⟨d, hd⟩ := Option.isSome_iff_exists.1 hc2.2
    rcases hst1 with ⟨x, hx, h1, h2⟩ | ⟨hx, h2⟩
    · have hv := hx _ _ (wait g d hc2.1 hd)
      have hy : yielded ops a.tmps g = some x := by
        unfold yielded
        rw [hd]
        simp only [Option.bind_some]
        rcases Nat.lt_or_ge d a.tmps.size with h | h
        · simp only [Array.getD_eq_getD_getElem?, Array.getElem?_eq_getElem h, Option.getD_some] at hv
          rw [Array.getElem?_eq_getElem h, hv]
        · simp only [Array.getD_eq_getD_getElem?, Array.getElem?_eq_none h, Option.getD_none] at hv
          cases hv
      by_cases hxb : x = b
      · refine run ?_ (h1 hxb)
        unfold Region.wanted
        rw [hgd]
        show (yielded ops a.tmps g == some b) = true
        rw [hy, hxb]
        simp
      · unfold wpOp
        have hnw : Region.wanted o (yielded ops a.tmps) = false := by
          unfold Region.wanted
          rw [hgd]
          show (yielded ops a.tmps g == some b) = false
          rw [hy]
          simpa using hxb
        simp only [ho, hnw, Bool.false_eq_true, if_false]
        exact ⟨undef, rfl, fun _ => h2 hxb w1, hW, hRr _⟩
    · have hv := hx _ _ (wait g d hc2.1 hd)
      have hy : yielded ops a.tmps g = none := by
        unfold yielded
        rw [hd]
        simp only [Option.bind_some]
        rcases Nat.lt_or_ge d a.tmps.size with h | h
        · simp only [Array.getD_eq_getD_getElem?, Array.getElem?_eq_getElem h, Option.getD_some] at hv
          rw [Array.getElem?_eq_getElem h, hv]
          rfl
        · rw [Array.getElem?_eq_none h]
      unfold wpOp
      have hnw : Region.wanted o (yielded ops a.tmps) = false := by
        unfold Region.wanted
        rw [hgd]
        show (yielded ops a.tmps g == some b) = false
        rw [hy]
        rfl
      simp only [ho, hnw, Bool.false_eq_true, if_false]
      exact ⟨undef, rfl, fun _ => h2 w1, hW, hRr _⟩
theorem wp_region_stepsN {id : Nat} {w : World} (T : Nat → Value → World → Prop) (W : World → Prop) (hRr : ∀ w, R w w) (hm : P.follows .mixedOrders = true) (hw : wellOrdered ops a0.tmps.size = true) (hcov : covered ops = true) (hs : Region.noSelect ops = true)
    (hT : ∀ j v w w', T j v w → R w w' → T j v w') (h0 : W w.drew)
    (steps : Steps (StepN R P ops a0 T W) 0 ops.toList)
    (fin : ∀ a w, Still ops a0 a → (∀ j d, (ops[j]?).bind (·.dst) = some d → T j (a.tmps.getD d undef) w) → W w → Q .normal a w) :
    (Code.region id ops true).wp P Q a0 w := by
  refine wp_region_typed T W hm hw hT h0 (fun j o ho a w1 hst ha hW => ?_) fin
  have hst1 := steps.at j o (by simpa using ho)
  rw [Nat.zero_add] at hst1
  exact stepN_op hRr hcov hs ho hst ha hW hst1
end
end Go.Proofs.Ytgaadndhecokfaa.Rl

/- What slots hold, by a list. (Kept apart since this seat's copy of XTypedR leaves it out.) -/
namespace Go.Proofs.Ytgaadndhecokfaa.Rl
open Go.RowKit
section
variable {R : World → World → Prop}
def Is (v0 : Value) : Value → World → Prop := fun v _ => v = v0
def isTrue : Value → World → Prop := Is (.bool true)
def typ (L : List (Value → World → Prop)) (j : Nat) (v : Value) (w : World) : Prop := L.getD j (fun _ _ => True) v w
theorem typ_mono {L : List (Value → World → Prop)} (h : ∀ p ∈ L, ∀ v w w', p v w → R w w' → p v w') : ∀ j v w w', typ L j v w → R w w' → typ L j v w' := fun j v w w' h1 h2 => by
  unfold typ at *
  rw [List.getD_eq_getElem?_getD] at *
  cases hl : L[j]? with
  | none => trivial
  | some p =>
    rw [hl] at h1
    exact h p (List.mem_of_getElem? hl) v w w' h1 h2
end
end Go.Proofs.Ytgaadndhecokfaa.Rl
