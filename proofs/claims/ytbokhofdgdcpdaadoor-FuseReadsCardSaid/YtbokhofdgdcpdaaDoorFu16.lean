/- SpThen, SpMeet, SpMath, put together. -/
import Derived.Test.YtbokhofdgdcpdaaDoorFu15
import Derived.Test.YtbokhofdgdcpdaaDoorFu03
/- Contract of part.then. -/
namespace Go.Proofs.YtbokhofdgdcpdaaDoor
open Go.RowKit Go.Lib Go.Joins

/-- a struct that is stored whole in the midst of a row -/
theorem store_at {ops : Array Oper} {rest : List Oper} {o : Oper} {a : Act} {w : World} {Q : Exit → Act → World → Prop} (hgd : o.guard = none) {ty : TypeId} {x y : Operand} (ho : o.op = .store ty x y)
    {g off : Nat} {cs cur : Array Value} {t : TypeId} (hx : a.eval x = .pointer (some ⟨g, off, none⟩)) (hy : a.eval y = .agg cs) (hg : w.heap[g]? = some (.cells cur t (0, 0))) (n : Nat) (hi : (Tryd.prog.info? ty).map (·.size) = some n)
    (hcs : cs.size = n) (hroom : off + n ≤ cur.size) (h1 : cs.all (·.oneCell') = true) (h : wpList Tryd.prog ops Q rest (a.put o.dst undef) (w.setRow g (cur.toList.take off ++ cs.toList ++ cur.toList.drop (off + n)).toArray)) : wpList Tryd.prog ops Q (o :: rest) a w := by
  refine wpList_plain hgd fun K hK => ?_
  have hr := run_storeCells_at (P := Tryd.prog) g off t cs.toList 0 cur w hg (by simp; omega) (fun v hv => (Array.all_eq_true_iff_forall_mem.1 h1) v (by simpa using hv))
  have hK' := hK _ _ h
  have hl : cs.toList.length = n := by simpa using hcs
  rw [hl, Nat.add_zero] at hr
  cases hq : Tryd.prog.info? ty with
  | none => simp [hq] at hi
  | some i =>
    have hs : i.size = n := by simpa [hq] using hi
    have hst : (storeVar ty ⟨g, off, none⟩ (.agg cs)).run Tryd.prog w = .ok () (w.setRow g (cur.toList.take off ++ cs.toList ++ cur.toList.drop (off + n)).toArray) := by
      simp [storeVar, sizeOf, typeInfo, hq, Value.cells, hs, hcs, hr]
    unfold Oper.wp execOp
    simp only [ho, hx, hy, Instr.storeAt, Instr.sureAddr, Sem.run_bind, Sem.run_pure, Result.andThen_ok, hst]
    exact hK'
theorem store_prt0 {ops : Array Oper} {rest : List Oper} {o : Oper} {a : Act} {w : World} {Q : Exit → Act → World → Prop} (hgd : o.guard = none) {x y : Operand} (ho : o.op = .store 68 x y) {B : Nat} {r : Prt} {f : Nat → Bool}
    (hx : a.eval x = .pointer (some ⟨B, 0, none⟩)) (hy : a.eval y = (.agg #[.int .u64 (word (f) 0), .int .u64 (word (f) 1), .int .u64 (word (f) 2), .int .u64 (word (f) 3)])) (hR : PrtAt w B r) (h : ∀ w', PrtAt w' B ⟨f, r.last, r.free⟩ → w.grownBy w' (some B) → wpList Tryd.prog ops Q rest (a.put o.dst undef) w') : wpList Tryd.prog ops Q (o :: rest) a w :=
  store_at hgd ho hx hy hR 4 (by kernel_rfl) rfl (by simp) (by kernel_rfl) (h _ (setRow_heap w B _ _ _ _ hR) ⟨rfl, rfl, rfl, by simp, fun k _ hk => setRow_other w B k _ (by simpa using hk)⟩)
theorem store_prt4 {ops : Array Oper} {rest : List Oper} {o : Oper} {a : Act} {w : World} {Q : Exit → Act → World → Prop} (hgd : o.guard = none) {x y : Operand} (ho : o.op = .store 68 x y) {B : Nat} {r : Prt} {f : Nat → Bool}
    (hx : a.eval x = .pointer (some ⟨B, 4, none⟩)) (hy : a.eval y = (.agg #[.int .u64 (word (f) 0), .int .u64 (word (f) 1), .int .u64 (word (f) 2), .int .u64 (word (f) 3)])) (hR : PrtAt w B r) (h : ∀ w', PrtAt w' B ⟨r.first, f, r.free⟩ → w.grownBy w' (some B) → wpList Tryd.prog ops Q rest (a.put o.dst undef) w') : wpList Tryd.prog ops Q (o :: rest) a w :=
  store_at hgd ho hx hy hR 4 (by kernel_rfl) rfl (by simp) (by kernel_rfl) (h _ (setRow_heap w B _ _ _ _ hR) ⟨rfl, rfl, rfl, by simp, fun k _ hk => setRow_other w B k _ (by simpa using hk)⟩)
/-- what is stored in a block of the call's own leaves the two parts -/
theorem Wpo.other {w wr w' : World} {a b : Prt} {B : Nat} (h : Wpo w a b wr) (hB : w.heap.size + 3 ≤ B) (hg : wr.grownBy w' (some B)) : Wpo w a b w' :=
  ⟨(hg.block _ h.one.lt (by simp; omega)).trans h.one, (hg.block _ h.two.lt (by simp; omega)).trans h.two, (hg.block _ (Array.getElem?_eq_some_iff.1 h.out).1 (by simp; omega)).trans h.out, h.frame.grown hg h.frame.size (fun j e => by simp only [Option.some.injEq] at e; omega)⟩
/-- what is known of two parts, one behind the other -/
def thenP (a b : Prt) : Prt := ⟨bif a.free then fOr a.first b.first else a.first, bif b.free then fOr a.last b.last else b.last, a.free && b.free⟩
attribute [local go_sem] evalR_tmp evalR_const evalR_global evalR_func
set_option maxHeartbeats 4000000 in
set_option maxRecDepth 100000 in
theorem prtThen_calls (a b : Prt) (w : World) : Calls Tryd.prog 82 #[prtV a, prtV b] w fun e w' => e = .returned (prtV (thenP a b)) ∧ Below w.heap.size w w' := by
  rcases ha : a.free with _ | _ <;> rcases hb : b.free with _ | _
  · have HNA := hidden ha
    have HNB := hidden hb
    have hna : Hid (a.free = false) := HNA
    clear ha hb
    have HP := hidden (heap_alloc_new (((w.alloc (.cells #[.int .u64 (word (a.first) 0), .int .u64 (word (a.first) 1), .int .u64 (word (a.first) 2), .int .u64 (word (a.first) 3), .int .u64 (word (a.last) 0), .int .u64 (word (a.last) 1), .int .u64 (word (a.last) 2), .int .u64 (word (a.last) 3), .bool false] 72)).alloc (.cells #[.int .u64 (word (b.first) 0), .int .u64 (word (b.first) 1), .int .u64 (word (b.first) 2), .int .u64 (word (b.first) 3), .int .u64 (word (b.last) 0), .int .u64 (word (b.last) 1), .int .u64 (word (b.last) 2), .int .u64 (word (b.last) 3), .bool false] 72)).alloc (.cells #[.int .u64 0, .int .u64 0, .int .u64 0, .int .u64 0, .int .u64 0, .int .u64 0, .int .u64 0, .int .u64 0, .bool false] 72)) (.cells #[.int .u64 0, .int .u64 0, .int .u64 0, .int .u64 0, .int .u64 0, .int .u64 0, .int .u64 0, .int .u64 0, .bool false] 72))
    have HS := hidden (Wpo.start w a b)
    rw [HNA.out, HNB.out] at HS
    rw [show (((w.alloc (.cells #[.int .u64 (word (a.first) 0), .int .u64 (word (a.first) 1), .int .u64 (word (a.first) 2), .int .u64 (word (a.first) 3), .int .u64 (word (a.last) 0), .int .u64 (word (a.last) 1), .int .u64 (word (a.last) 2), .int .u64 (word (a.last) 3), .bool false] 72)).alloc (.cells #[.int .u64 (word (b.first) 0), .int .u64 (word (b.first) 1), .int .u64 (word (b.first) 2), .int .u64 (word (b.first) 3), .int .u64 (word (b.last) 0), .int .u64 (word (b.last) 1), .int .u64 (word (b.last) 2), .int .u64 (word (b.last) 3), .bool false] 72)).alloc (.cells #[.int .u64 0, .int .u64 0, .int .u64 0, .int .u64 0, .int .u64 0, .int .u64 0, .int .u64 0, .int .u64 0, .bool false] 72)).heap.size = w.heap.size + 3 by simp] at HP
    have HS2 := hidden (HS.out.below ((Below.refl _ _).alloc (Nat.le_refl _) (.cells #[.int .u64 0, .int .u64 0, .int .u64 0, .int .u64 0, .int .u64 0, .int .u64 0, .int .u64 0, .int .u64 0, .bool false] 72)))
    clear HS
    rw [show prtV a = .agg #[.int .u64 (word (a.first) 0), .int .u64 (word (a.first) 1), .int .u64 (word (a.first) 2), .int .u64 (word (a.first) 3), .int .u64 (word (a.last) 0), .int .u64 (word (a.last) 1), .int .u64 (word (a.last) 2), .int .u64 (word (a.last) 3), .bool false] by unfold prtV; rw [HNA.out], show prtV b = .agg #[.int .u64 (word (b.first) 0), .int .u64 (word (b.first) 1), .int .u64 (word (b.first) 2), .int .u64 (word (b.first) 3), .int .u64 (word (b.last) 0), .int .u64 (word (b.last) 1), .int .u64 (word (b.last) 2), .int .u64 (word (b.last) 3), .bool false] by unfold prtV; rw [HNB.out]]
    go_enter Tryd.func82, Tryd.ntmps82
    go_wp2_with (first | (refine store_row (B := w.heap.size + 3) (cs := #[.int .u64 (word (a.first) 0), .int .u64 (word (a.first) 1), .int .u64 (word (a.first) 2), .int .u64 (word (a.first) 3), .int .u64 (word (b.last) 0), .int .u64 (word (b.last) 1), .int .u64 (word (b.last) 2), .int .u64 (word (b.last) 3), .bool false]) (old := #[.int .u64 0, .int .u64 0, .int .u64 0, .int .u64 0, .int .u64 0, .int .u64 0, .int .u64 0, .int .u64 0, .bool false]) (t := 72) rfl (ty := 72) (x := .tmp 5) (y := .tmp 19) rfl rfl rfl HP.out 9 (by kernel_rfl) rfl rfl (by kernel_rfl) ?_; intro w5 hr5 hg5; have hw5 := HS2.out.other (by omega) hg5; have hr5 : PrtAt w5 (w.heap.size + 3) (⟨a.first, b.last, false⟩ : Prt) := hr5; have HR5 := hidden hr5; have HW5 := hidden hw5; obtain ⟨⟨c0, c1, c2, c3, c4, c5, c6, c7, c8⟩, d0, d1, d2, d3, d4, d5, d6, d7, d8⟩ := (hw5).cells; rw [HNA.out] at c8; rw [HNB.out] at d8; obtain ⟨e0, e1, e2, e3, e4, e5, e6, e7, e8⟩ := (hr5).cells; have hl0 := (hw5).one.lt; have hl1 := (hw5).two.lt; have hl3 := (hr5).lt; clear hr5 hg5 hw5) | (refine store_row (B := w.heap.size + 2) (cs := #[.int .u64 (word (a.first) 0), .int .u64 (word (a.first) 1), .int .u64 (word (a.first) 2), .int .u64 (word (a.first) 3), .int .u64 (word (b.last) 0), .int .u64 (word (b.last) 1), .int .u64 (word (b.last) 2), .int .u64 (word (b.last) 3), .bool false]) (old := #[.int .u64 0, .int .u64 0, .int .u64 0, .int .u64 0, .int .u64 0, .int .u64 0, .int .u64 0, .int .u64 0, .bool false]) (t := 72) rfl (ty := 72) (x := .tmp 4) (y := .tmp 42) rfl rfl rfl HW5.out.out 9 (by kernel_rfl) rfl rfl (by kernel_rfl) ?_; intro w9 hw9 hg9; have HL9 := hidden hw9; have HG9 := hidden hg9; clear hw9 hg9) | fail)
    exact ret_prt (l := ⟨a.first, b.last, false⟩) Tryd.results82 rfl rfl HL9.out ⟨by unfold prtV thenP; rw [HNA.out, HNB.out]; rfl, HW5.out.frame.grown HG9.out HW5.out.frame.size (fun j e => by simp only [Option.some.injEq] at e; omega)⟩
  · have HNA := hidden ha
    have HNB := hidden hb
    have hna : Hid (a.free = false) := HNA
    clear ha hb
    have HP := hidden (heap_alloc_new (((w.alloc (.cells #[.int .u64 (word (a.first) 0), .int .u64 (word (a.first) 1), .int .u64 (word (a.first) 2), .int .u64 (word (a.first) 3), .int .u64 (word (a.last) 0), .int .u64 (word (a.last) 1), .int .u64 (word (a.last) 2), .int .u64 (word (a.last) 3), .bool false] 72)).alloc (.cells #[.int .u64 (word (b.first) 0), .int .u64 (word (b.first) 1), .int .u64 (word (b.first) 2), .int .u64 (word (b.first) 3), .int .u64 (word (b.last) 0), .int .u64 (word (b.last) 1), .int .u64 (word (b.last) 2), .int .u64 (word (b.last) 3), .bool true] 72)).alloc (.cells #[.int .u64 0, .int .u64 0, .int .u64 0, .int .u64 0, .int .u64 0, .int .u64 0, .int .u64 0, .int .u64 0, .bool false] 72)) (.cells #[.int .u64 0, .int .u64 0, .int .u64 0, .int .u64 0, .int .u64 0, .int .u64 0, .int .u64 0, .int .u64 0, .bool false] 72))
    have HS := hidden (Wpo.start w a b)
    rw [HNA.out, HNB.out] at HS
    rw [show (((w.alloc (.cells #[.int .u64 (word (a.first) 0), .int .u64 (word (a.first) 1), .int .u64 (word (a.first) 2), .int .u64 (word (a.first) 3), .int .u64 (word (a.last) 0), .int .u64 (word (a.last) 1), .int .u64 (word (a.last) 2), .int .u64 (word (a.last) 3), .bool false] 72)).alloc (.cells #[.int .u64 (word (b.first) 0), .int .u64 (word (b.first) 1), .int .u64 (word (b.first) 2), .int .u64 (word (b.first) 3), .int .u64 (word (b.last) 0), .int .u64 (word (b.last) 1), .int .u64 (word (b.last) 2), .int .u64 (word (b.last) 3), .bool true] 72)).alloc (.cells #[.int .u64 0, .int .u64 0, .int .u64 0, .int .u64 0, .int .u64 0, .int .u64 0, .int .u64 0, .int .u64 0, .bool false] 72)).heap.size = w.heap.size + 3 by simp] at HP
    have HS2 := hidden (HS.out.below ((Below.refl _ _).alloc (Nat.le_refl _) (.cells #[.int .u64 0, .int .u64 0, .int .u64 0, .int .u64 0, .int .u64 0, .int .u64 0, .int .u64 0, .int .u64 0, .bool false] 72)))
    clear HS
    rw [show prtV a = .agg #[.int .u64 (word (a.first) 0), .int .u64 (word (a.first) 1), .int .u64 (word (a.first) 2), .int .u64 (word (a.first) 3), .int .u64 (word (a.last) 0), .int .u64 (word (a.last) 1), .int .u64 (word (a.last) 2), .int .u64 (word (a.last) 3), .bool false] by unfold prtV; rw [HNA.out], show prtV b = .agg #[.int .u64 (word (b.first) 0), .int .u64 (word (b.first) 1), .int .u64 (word (b.first) 2), .int .u64 (word (b.first) 3), .int .u64 (word (b.last) 0), .int .u64 (word (b.last) 1), .int .u64 (word (b.last) 2), .int .u64 (word (b.last) 3), .bool true] by unfold prtV; rw [HNB.out]]
    go_enter Tryd.func82, Tryd.ntmps82
    go_wp2_with (first | (refine store_row (B := w.heap.size + 3) (cs := #[.int .u64 (word (a.first) 0), .int .u64 (word (a.first) 1), .int .u64 (word (a.first) 2), .int .u64 (word (a.first) 3), .int .u64 (word (b.last) 0), .int .u64 (word (b.last) 1), .int .u64 (word (b.last) 2), .int .u64 (word (b.last) 3), .bool false]) (old := #[.int .u64 0, .int .u64 0, .int .u64 0, .int .u64 0, .int .u64 0, .int .u64 0, .int .u64 0, .int .u64 0, .bool false]) (t := 72) rfl (ty := 72) (x := .tmp 5) (y := .tmp 19) rfl rfl rfl HP.out 9 (by kernel_rfl) rfl rfl (by kernel_rfl) ?_; intro w5 hr5 hg5; have hw5 := HS2.out.other (by omega) hg5; have hr5 : PrtAt w5 (w.heap.size + 3) (⟨a.first, b.last, false⟩ : Prt) := hr5; have HR5 := hidden hr5; have HW5 := hidden hw5; obtain ⟨⟨c0, c1, c2, c3, c4, c5, c6, c7, c8⟩, d0, d1, d2, d3, d4, d5, d6, d7, d8⟩ := (hw5).cells; rw [HNA.out] at c8; rw [HNB.out] at d8; obtain ⟨e0, e1, e2, e3, e4, e5, e6, e7, e8⟩ := (hr5).cells; have hl0 := (hw5).one.lt; have hl1 := (hw5).two.lt; have hl3 := (hr5).lt; clear hr5 hg5 hw5) | fail)
    clear c0 c1 c2 c3 c4 c5 c6 c7 c8 d0 d1 d2 d3 d4 d5 d6 d7 d8 e0 e1 e2 e3 e4 e5 e6 e7 e8 hl0 hl1 hl3
    refine (spWith_calls a.last b.last _).mono ?_
    rintro e w6 ⟨rfl, hb6⟩
    have hw6 := HW5.out.below (hb6.mono (Nat.le_refl _))
    have hr6 := HR5.out.below hb6
    have HR6 := hidden hr6
    have HW6 := hidden hw6
    obtain ⟨⟨c0, c1, c2, c3, c4, c5, c6, c7, c8⟩, d0, d1, d2, d3, d4, d5, d6, d7, d8⟩ := (hw6).cells
    rw [HNA.out] at c8
    rw [HNB.out] at d8
    obtain ⟨e0, e1, e2, e3, e4, e5, e6, e7, e8⟩ := (hr6).cells
    have hl0 := (hw6).one.lt
    have hl1 := (hw6).two.lt
    have hl3 := (hr6).lt
    clear hb6 hw6 hr6
    dsimp only
    go_wp2_with (first | (refine store_prt4 (B := w.heap.size + 3) (r := (⟨a.first, b.last, false⟩ : Prt)) (f := fOr a.last b.last) (x := .tmp 41) (y := .tmp 39) rfl rfl rfl rfl HR6.out ?_; intro w7 hr7 hg7; have hw7 := HW6.out.other (by omega) hg7; have HR7 := hidden hr7; have HW7 := hidden hw7; obtain ⟨⟨c0, c1, c2, c3, c4, c5, c6, c7, c8⟩, d0, d1, d2, d3, d4, d5, d6, d7, d8⟩ := (hw7).cells; rw [HNA.out] at c8; rw [HNB.out] at d8; obtain ⟨e0, e1, e2, e3, e4, e5, e6, e7, e8⟩ := (hr7).cells; have hl0 := (hw7).one.lt; have hl1 := (hw7).two.lt; have hl3 := (hr7).lt; clear hr7 hg7 hw7) | (refine store_row (B := w.heap.size + 2) (cs := #[.int .u64 (word (a.first) 0), .int .u64 (word (a.first) 1), .int .u64 (word (a.first) 2), .int .u64 (word (a.first) 3), .int .u64 (word (fOr a.last b.last) 0), .int .u64 (word (fOr a.last b.last) 1), .int .u64 (word (fOr a.last b.last) 2), .int .u64 (word (fOr a.last b.last) 3), .bool false]) (old := #[.int .u64 0, .int .u64 0, .int .u64 0, .int .u64 0, .int .u64 0, .int .u64 0, .int .u64 0, .int .u64 0, .bool false]) (t := 72) rfl (ty := 72) (x := .tmp 4) (y := .tmp 42) rfl rfl rfl HW7.out.out 9 (by kernel_rfl) rfl rfl (by kernel_rfl) ?_; intro w9 hw9 hg9; have HL9 := hidden hw9; have HG9 := hidden hg9; clear hw9 hg9) | fail)
    exact ret_prt (l := ⟨a.first, (fOr a.last b.last), false⟩) Tryd.results82 rfl rfl HL9.out ⟨by unfold prtV thenP; rw [HNA.out, HNB.out]; rfl, HW7.out.frame.grown HG9.out HW7.out.frame.size (fun j e => by simp only [Option.some.injEq] at e; omega)⟩
  · have HNA := hidden ha
    have HNB := hidden hb
    have hna : Hid (a.free = true) := HNA
    clear ha hb
    have HP := hidden (heap_alloc_new (((w.alloc (.cells #[.int .u64 (word (a.first) 0), .int .u64 (word (a.first) 1), .int .u64 (word (a.first) 2), .int .u64 (word (a.first) 3), .int .u64 (word (a.last) 0), .int .u64 (word (a.last) 1), .int .u64 (word (a.last) 2), .int .u64 (word (a.last) 3), .bool true] 72)).alloc (.cells #[.int .u64 (word (b.first) 0), .int .u64 (word (b.first) 1), .int .u64 (word (b.first) 2), .int .u64 (word (b.first) 3), .int .u64 (word (b.last) 0), .int .u64 (word (b.last) 1), .int .u64 (word (b.last) 2), .int .u64 (word (b.last) 3), .bool false] 72)).alloc (.cells #[.int .u64 0, .int .u64 0, .int .u64 0, .int .u64 0, .int .u64 0, .int .u64 0, .int .u64 0, .int .u64 0, .bool false] 72)) (.cells #[.int .u64 0, .int .u64 0, .int .u64 0, .int .u64 0, .int .u64 0, .int .u64 0, .int .u64 0, .int .u64 0, .bool false] 72))
    have HS := hidden (Wpo.start w a b)
    rw [HNA.out, HNB.out] at HS
    rw [show (((w.alloc (.cells #[.int .u64 (word (a.first) 0), .int .u64 (word (a.first) 1), .int .u64 (word (a.first) 2), .int .u64 (word (a.first) 3), .int .u64 (word (a.last) 0), .int .u64 (word (a.last) 1), .int .u64 (word (a.last) 2), .int .u64 (word (a.last) 3), .bool true] 72)).alloc (.cells #[.int .u64 (word (b.first) 0), .int .u64 (word (b.first) 1), .int .u64 (word (b.first) 2), .int .u64 (word (b.first) 3), .int .u64 (word (b.last) 0), .int .u64 (word (b.last) 1), .int .u64 (word (b.last) 2), .int .u64 (word (b.last) 3), .bool false] 72)).alloc (.cells #[.int .u64 0, .int .u64 0, .int .u64 0, .int .u64 0, .int .u64 0, .int .u64 0, .int .u64 0, .int .u64 0, .bool false] 72)).heap.size = w.heap.size + 3 by simp] at HP
    have HS2 := hidden (HS.out.below ((Below.refl _ _).alloc (Nat.le_refl _) (.cells #[.int .u64 0, .int .u64 0, .int .u64 0, .int .u64 0, .int .u64 0, .int .u64 0, .int .u64 0, .int .u64 0, .bool false] 72)))
    clear HS
    rw [show prtV a = .agg #[.int .u64 (word (a.first) 0), .int .u64 (word (a.first) 1), .int .u64 (word (a.first) 2), .int .u64 (word (a.first) 3), .int .u64 (word (a.last) 0), .int .u64 (word (a.last) 1), .int .u64 (word (a.last) 2), .int .u64 (word (a.last) 3), .bool true] by unfold prtV; rw [HNA.out], show prtV b = .agg #[.int .u64 (word (b.first) 0), .int .u64 (word (b.first) 1), .int .u64 (word (b.first) 2), .int .u64 (word (b.first) 3), .int .u64 (word (b.last) 0), .int .u64 (word (b.last) 1), .int .u64 (word (b.last) 2), .int .u64 (word (b.last) 3), .bool false] by unfold prtV; rw [HNB.out]]
    go_enter Tryd.func82, Tryd.ntmps82
    go_wp2_with (first | (refine store_row (B := w.heap.size + 3) (cs := #[.int .u64 (word (a.first) 0), .int .u64 (word (a.first) 1), .int .u64 (word (a.first) 2), .int .u64 (word (a.first) 3), .int .u64 (word (b.last) 0), .int .u64 (word (b.last) 1), .int .u64 (word (b.last) 2), .int .u64 (word (b.last) 3), .bool false]) (old := #[.int .u64 0, .int .u64 0, .int .u64 0, .int .u64 0, .int .u64 0, .int .u64 0, .int .u64 0, .int .u64 0, .bool false]) (t := 72) rfl (ty := 72) (x := .tmp 5) (y := .tmp 19) rfl rfl rfl HP.out 9 (by kernel_rfl) rfl rfl (by kernel_rfl) ?_; intro w5 hr5 hg5; have hw5 := HS2.out.other (by omega) hg5; have hr5 : PrtAt w5 (w.heap.size + 3) (⟨a.first, b.last, false⟩ : Prt) := hr5; have HR5 := hidden hr5; have HW5 := hidden hw5; obtain ⟨⟨c0, c1, c2, c3, c4, c5, c6, c7, c8⟩, d0, d1, d2, d3, d4, d5, d6, d7, d8⟩ := (hw5).cells; rw [HNA.out] at c8; rw [HNB.out] at d8; obtain ⟨e0, e1, e2, e3, e4, e5, e6, e7, e8⟩ := (hr5).cells; have hl0 := (hw5).one.lt; have hl1 := (hw5).two.lt; have hl3 := (hr5).lt; clear hr5 hg5 hw5) | fail)
    clear c0 c1 c2 c3 c4 c5 c6 c7 c8 d0 d1 d2 d3 d4 d5 d6 d7 d8 e0 e1 e2 e3 e4 e5 e6 e7 e8 hl0 hl1 hl3
    refine (spWith_calls a.first b.first _).mono ?_
    rintro e w6 ⟨rfl, hb6⟩
    have hw6 := HW5.out.below (hb6.mono (Nat.le_refl _))
    have hr6 := HR5.out.below hb6
    have HR6 := hidden hr6
    have HW6 := hidden hw6
    obtain ⟨⟨c0, c1, c2, c3, c4, c5, c6, c7, c8⟩, d0, d1, d2, d3, d4, d5, d6, d7, d8⟩ := (hw6).cells
    rw [HNA.out] at c8
    rw [HNB.out] at d8
    obtain ⟨e0, e1, e2, e3, e4, e5, e6, e7, e8⟩ := (hr6).cells
    have hl0 := (hw6).one.lt
    have hl1 := (hw6).two.lt
    have hl3 := (hr6).lt
    clear hb6 hw6 hr6
    dsimp only
    go_wp2_with (first | (refine store_prt0 (B := w.heap.size + 3) (r := (⟨a.first, b.last, false⟩ : Prt)) (f := fOr a.first b.first) (x := .tmp 30) (y := .tmp 28) rfl rfl rfl rfl HR6.out ?_; intro w7 hr7 hg7; have hw7 := HW6.out.other (by omega) hg7; have HR7 := hidden hr7; have HW7 := hidden hw7; obtain ⟨⟨c0, c1, c2, c3, c4, c5, c6, c7, c8⟩, d0, d1, d2, d3, d4, d5, d6, d7, d8⟩ := (hw7).cells; rw [HNA.out] at c8; rw [HNB.out] at d8; obtain ⟨e0, e1, e2, e3, e4, e5, e6, e7, e8⟩ := (hr7).cells; have hl0 := (hw7).one.lt; have hl1 := (hw7).two.lt; have hl3 := (hr7).lt; clear hr7 hg7 hw7) | (refine store_row (B := w.heap.size + 2) (cs := #[.int .u64 (word (fOr a.first b.first) 0), .int .u64 (word (fOr a.first b.first) 1), .int .u64 (word (fOr a.first b.first) 2), .int .u64 (word (fOr a.first b.first) 3), .int .u64 (word (b.last) 0), .int .u64 (word (b.last) 1), .int .u64 (word (b.last) 2), .int .u64 (word (b.last) 3), .bool false]) (old := #[.int .u64 0, .int .u64 0, .int .u64 0, .int .u64 0, .int .u64 0, .int .u64 0, .int .u64 0, .int .u64 0, .bool false]) (t := 72) rfl (ty := 72) (x := .tmp 4) (y := .tmp 42) rfl rfl rfl HW7.out.out 9 (by kernel_rfl) rfl rfl (by kernel_rfl) ?_; intro w9 hw9 hg9; have HL9 := hidden hw9; have HG9 := hidden hg9; clear hw9 hg9) | fail)
    exact ret_prt (l := ⟨(fOr a.first b.first), b.last, false⟩) Tryd.results82 rfl rfl HL9.out ⟨by unfold prtV thenP; rw [HNA.out, HNB.out]; rfl, HW7.out.frame.grown HG9.out HW7.out.frame.size (fun j e => by simp only [Option.some.injEq] at e; omega)⟩
  · have HNA := hidden ha
    have HNB := hidden hb
    have hna : Hid (a.free = true) := HNA
    clear ha hb
    have HP := hidden (heap_alloc_new (((w.alloc (.cells #[.int .u64 (word (a.first) 0), .int .u64 (word (a.first) 1), .int .u64 (word (a.first) 2), .int .u64 (word (a.first) 3), .int .u64 (word (a.last) 0), .int .u64 (word (a.last) 1), .int .u64 (word (a.last) 2), .int .u64 (word (a.last) 3), .bool true] 72)).alloc (.cells #[.int .u64 (word (b.first) 0), .int .u64 (word (b.first) 1), .int .u64 (word (b.first) 2), .int .u64 (word (b.first) 3), .int .u64 (word (b.last) 0), .int .u64 (word (b.last) 1), .int .u64 (word (b.last) 2), .int .u64 (word (b.last) 3), .bool true] 72)).alloc (.cells #[.int .u64 0, .int .u64 0, .int .u64 0, .int .u64 0, .int .u64 0, .int .u64 0, .int .u64 0, .int .u64 0, .bool false] 72)) (.cells #[.int .u64 0, .int .u64 0, .int .u64 0, .int .u64 0, .int .u64 0, .int .u64 0, .int .u64 0, .int .u64 0, .bool false] 72))
    have HS := hidden (Wpo.start w a b)
    rw [HNA.out, HNB.out] at HS
    rw [show (((w.alloc (.cells #[.int .u64 (word (a.first) 0), .int .u64 (word (a.first) 1), .int .u64 (word (a.first) 2), .int .u64 (word (a.first) 3), .int .u64 (word (a.last) 0), .int .u64 (word (a.last) 1), .int .u64 (word (a.last) 2), .int .u64 (word (a.last) 3), .bool true] 72)).alloc (.cells #[.int .u64 (word (b.first) 0), .int .u64 (word (b.first) 1), .int .u64 (word (b.first) 2), .int .u64 (word (b.first) 3), .int .u64 (word (b.last) 0), .int .u64 (word (b.last) 1), .int .u64 (word (b.last) 2), .int .u64 (word (b.last) 3), .bool true] 72)).alloc (.cells #[.int .u64 0, .int .u64 0, .int .u64 0, .int .u64 0, .int .u64 0, .int .u64 0, .int .u64 0, .int .u64 0, .bool false] 72)).heap.size = w.heap.size + 3 by simp] at HP
    have HS2 := hidden (HS.out.below ((Below.refl _ _).alloc (Nat.le_refl _) (.cells #[.int .u64 0, .int .u64 0, .int .u64 0, .int .u64 0, .int .u64 0, .int .u64 0, .int .u64 0, .int .u64 0, .bool false] 72)))
    clear HS
    rw [show prtV a = .agg #[.int .u64 (word (a.first) 0), .int .u64 (word (a.first) 1), .int .u64 (word (a.first) 2), .int .u64 (word (a.first) 3), .int .u64 (word (a.last) 0), .int .u64 (word (a.last) 1), .int .u64 (word (a.last) 2), .int .u64 (word (a.last) 3), .bool true] by unfold prtV; rw [HNA.out], show prtV b = .agg #[.int .u64 (word (b.first) 0), .int .u64 (word (b.first) 1), .int .u64 (word (b.first) 2), .int .u64 (word (b.first) 3), .int .u64 (word (b.last) 0), .int .u64 (word (b.last) 1), .int .u64 (word (b.last) 2), .int .u64 (word (b.last) 3), .bool true] by unfold prtV; rw [HNB.out]]
    go_enter Tryd.func82, Tryd.ntmps82
    go_wp2_with (first | (refine store_row (B := w.heap.size + 3) (cs := #[.int .u64 (word (a.first) 0), .int .u64 (word (a.first) 1), .int .u64 (word (a.first) 2), .int .u64 (word (a.first) 3), .int .u64 (word (b.last) 0), .int .u64 (word (b.last) 1), .int .u64 (word (b.last) 2), .int .u64 (word (b.last) 3), .bool true]) (old := #[.int .u64 0, .int .u64 0, .int .u64 0, .int .u64 0, .int .u64 0, .int .u64 0, .int .u64 0, .int .u64 0, .bool false]) (t := 72) rfl (ty := 72) (x := .tmp 5) (y := .tmp 19) rfl rfl rfl HP.out 9 (by kernel_rfl) rfl rfl (by kernel_rfl) ?_; intro w5 hr5 hg5; have hw5 := HS2.out.other (by omega) hg5; have hr5 : PrtAt w5 (w.heap.size + 3) (⟨a.first, b.last, true⟩ : Prt) := hr5; have HR5 := hidden hr5; have HW5 := hidden hw5; obtain ⟨⟨c0, c1, c2, c3, c4, c5, c6, c7, c8⟩, d0, d1, d2, d3, d4, d5, d6, d7, d8⟩ := (hw5).cells; rw [HNA.out] at c8; rw [HNB.out] at d8; obtain ⟨e0, e1, e2, e3, e4, e5, e6, e7, e8⟩ := (hr5).cells; have hl0 := (hw5).one.lt; have hl1 := (hw5).two.lt; have hl3 := (hr5).lt; clear hr5 hg5 hw5) | fail)
    clear c0 c1 c2 c3 c4 c5 c6 c7 c8 d0 d1 d2 d3 d4 d5 d6 d7 d8 e0 e1 e2 e3 e4 e5 e6 e7 e8 hl0 hl1 hl3
    refine (spWith_calls a.first b.first _).mono ?_
    rintro e w6 ⟨rfl, hb6⟩
    have hw6 := HW5.out.below (hb6.mono (Nat.le_refl _))
    have hr6 := HR5.out.below hb6
    have HR6 := hidden hr6
    have HW6 := hidden hw6
    obtain ⟨⟨c0, c1, c2, c3, c4, c5, c6, c7, c8⟩, d0, d1, d2, d3, d4, d5, d6, d7, d8⟩ := (hw6).cells
    rw [HNA.out] at c8
    rw [HNB.out] at d8
    obtain ⟨e0, e1, e2, e3, e4, e5, e6, e7, e8⟩ := (hr6).cells
    have hl0 := (hw6).one.lt
    have hl1 := (hw6).two.lt
    have hl3 := (hr6).lt
    clear hb6 hw6 hr6
    dsimp only
    go_wp2_with (first | (refine store_prt0 (B := w.heap.size + 3) (r := (⟨a.first, b.last, true⟩ : Prt)) (f := fOr a.first b.first) (x := .tmp 30) (y := .tmp 28) rfl rfl rfl rfl HR6.out ?_; intro w7 hr7 hg7; have hw7 := HW6.out.other (by omega) hg7; have HR7 := hidden hr7; have HW7 := hidden hw7; obtain ⟨⟨c0, c1, c2, c3, c4, c5, c6, c7, c8⟩, d0, d1, d2, d3, d4, d5, d6, d7, d8⟩ := (hw7).cells; rw [HNA.out] at c8; rw [HNB.out] at d8; obtain ⟨e0, e1, e2, e3, e4, e5, e6, e7, e8⟩ := (hr7).cells; have hl0 := (hw7).one.lt; have hl1 := (hw7).two.lt; have hl3 := (hr7).lt; clear hr7 hg7 hw7) | fail)
    clear c0 c1 c2 c3 c4 c5 c6 c7 c8 d0 d1 d2 d3 d4 d5 d6 d7 d8 e0 e1 e2 e3 e4 e5 e6 e7 e8 hl0 hl1 hl3
    refine (spWith_calls a.last b.last _).mono ?_
    rintro e w8 ⟨rfl, hb8⟩
    have hw8 := HW7.out.below (hb8.mono (Nat.le_refl _))
    have hr8 := HR7.out.below hb8
    have HR8 := hidden hr8
    have HW8 := hidden hw8
    obtain ⟨⟨c0, c1, c2, c3, c4, c5, c6, c7, c8⟩, d0, d1, d2, d3, d4, d5, d6, d7, d8⟩ := (hw8).cells
    rw [HNA.out] at c8
    rw [HNB.out] at d8
    obtain ⟨e0, e1, e2, e3, e4, e5, e6, e7, e8⟩ := (hr8).cells
    have hl0 := (hw8).one.lt
    have hl1 := (hw8).two.lt
    have hl3 := (hr8).lt
    clear hb8 hw8 hr8
    dsimp only
    go_wp2_with (first | (refine store_prt4 (B := w.heap.size + 3) (r := (⟨(fOr a.first b.first), b.last, true⟩ : Prt)) (f := fOr a.last b.last) (x := .tmp 41) (y := .tmp 39) rfl rfl rfl rfl HR8.out ?_; intro w9 hr9 hg9; have hw9 := HW8.out.other (by omega) hg9; have HR9 := hidden hr9; have HW9 := hidden hw9; obtain ⟨⟨c0, c1, c2, c3, c4, c5, c6, c7, c8⟩, d0, d1, d2, d3, d4, d5, d6, d7, d8⟩ := (hw9).cells; rw [HNA.out] at c8; rw [HNB.out] at d8; obtain ⟨e0, e1, e2, e3, e4, e5, e6, e7, e8⟩ := (hr9).cells; have hl0 := (hw9).one.lt; have hl1 := (hw9).two.lt; have hl3 := (hr9).lt; clear hr9 hg9 hw9) | (refine store_row (B := w.heap.size + 2) (cs := #[.int .u64 (word (fOr a.first b.first) 0), .int .u64 (word (fOr a.first b.first) 1), .int .u64 (word (fOr a.first b.first) 2), .int .u64 (word (fOr a.first b.first) 3), .int .u64 (word (fOr a.last b.last) 0), .int .u64 (word (fOr a.last b.last) 1), .int .u64 (word (fOr a.last b.last) 2), .int .u64 (word (fOr a.last b.last) 3), .bool true]) (old := #[.int .u64 0, .int .u64 0, .int .u64 0, .int .u64 0, .int .u64 0, .int .u64 0, .int .u64 0, .int .u64 0, .bool false]) (t := 72) rfl (ty := 72) (x := .tmp 4) (y := .tmp 42) rfl rfl rfl HW9.out.out 9 (by kernel_rfl) rfl rfl (by kernel_rfl) ?_; intro w9 hw9 hg9; have HL9 := hidden hw9; have HG9 := hidden hg9; clear hw9 hg9) | fail)
    exact ret_prt (l := ⟨(fOr a.first b.first), (fOr a.last b.last), true⟩) Tryd.results82 rfl rfl HL9.out ⟨by unfold prtV thenP; rw [HNA.out, HNB.out]; rfl, HW9.out.frame.grown HG9.out HW9.out.frame.size (fun j e => by simp only [Option.some.injEq] at e; omega)⟩
end Go.Proofs.YtbokhofdgdcpdaaDoor

/- What is done for spots that stand one behind the other: nothing (whole), or a set that grows (Follow); contracts of chain and repeat, whatever is done. -/
namespace Go.Proofs.YtbokhofdgdcpdaaDoor
open Go.RowKit Go.Lib Go.Joins

section
variable {w w' w'' : World} {row : Option Nat}
theorem gb_trans (h : w.grownBy w' row) (k : w'.grownBy w'' row) : w.grownBy w'' row :=
  ⟨k.os.trans h.os, k.tape.trans h.tape, k.output.trans h.output, Nat.le_trans h.size k.size, fun i hi hr => (k.block i (Nat.lt_of_lt_of_le hi h.size) hr).trans (h.block i hi hr)⟩
theorem gb_below (h : Below w.heap.size w w') : w.grownBy w' row := ⟨h.os, h.tape, h.output, h.size, fun k hk _ => h.block k hk⟩
theorem gb_none (h : w.grownBy w' none) : w.grownBy w' row := ⟨h.os, h.tape, h.output, h.size, fun k hk _ => h.block k hk (by simp)⟩
theorem gb_alloc (o : Obj) : w.grownBy (w.alloc o) row := World.grownBy_alloc w o row
/-- what is done to a block of the call's own is not seen -/
theorem gb_own {B : Nat} (h : w.grownBy w' row) (k : w'.grownBy w'' (some B)) (hB : w.heap.size ≤ B) : w.grownBy w'' row :=
  ⟨k.os.trans h.os, k.tape.trans h.tape, k.output.trans h.output, Nat.le_trans h.size k.size, fun i hi hr => (k.block i (Nat.lt_of_lt_of_le hi h.size) (fun e => by simp only [Option.some.injEq] at e; omega)).trans (h.block i hi hr)⟩
end
/-- block A has this set of spots -/
def SetA (w : World) (A : Nat) (G : Nat → Bool) : Prop := w.heap[A]? = some (.cells #[.int .u64 (word (G) 0), .int .u64 (word (G) 1), .int .u64 (word (G) 2), .int .u64 (word (G) 3)] 68 (0, 0))
theorem SetA.lt {w : World} {A : Nat} {G : Nat → Bool} (h : SetA w A G) : A < w.heap.size := (Array.getElem?_eq_some_iff.1 h).1
theorem SetA.below {w w' : World} {A : Nat} {G : Nat → Bool} (h : SetA w A G) (hb : Below w.heap.size w w') : SetA w' A G := (hb.block A h.lt).trans h
theorem SetA.cells {w : World} {A : Nat} {G : Nat → Bool} (h : SetA w A G) : w.cell? ⟨A, 0, none⟩ = some (.int .u64 (word G 0)) ∧ w.cell? ⟨A, 1, none⟩ = some (.int .u64 (word G 1)) ∧ w.cell? ⟨A, 2, none⟩ = some (.int .u64 (word G 2)) ∧ w.cell? ⟨A, 3, none⟩ = some (.int .u64 (word G 3)) := by
  have h' : w.heap[A]? = some (.cells #[.int .u64 (word (G) 0), .int .u64 (word (G) 1), .int .u64 (word (G) 2), .int .u64 (word (G) 3)] 68 (0, 0)) := h
  exact ⟨cell_of_row w A 0 _ _ _ h', cell_of_row w A 1 _ _ _ h', cell_of_row w A 2 _ _ _ h', cell_of_row w A 3 _ _ _ h'⟩
set_option maxHeartbeats 2000000 in
set_option maxRecDepth 100000 in
theorem pass_calls (a b : Prt) (w : World) : Calls Tryd.prog 74 #[sptV a, sptV b] w fun e w' => e = .returned (.tuple #[]) ∧ Below w.heap.size w w' := by
  unfold sptV
  go_enter Tryd.func74, Tryd.ntmps74
  go_wp2
  go_end0
  exact ⟨rfl, ((Below.refl w.heap.size w).alloc (Nat.le_refl _) _).alloc (by simp) _⟩
/-- the set of Follow, behind one such call -/
def folG (i : Int) (G : Nat → Bool) (a b : Prt) : Nat → Bool := bif hasS a.last i then fOr G b.first else G
set_option maxHeartbeats 4000000 in
set_option maxRecDepth 100000 in
theorem fol_calls {w : World} {A iB : Nat} {i : Int} {G : Nat → Bool} (a b : Prt) (hi : Boxed w iB 3 (.int .i64 i)) (hA : SetA w A G) :
    Calls Tryd.prog 52 #[sptV a, sptV b, .pointer (some ⟨iB, 0, none⟩), .pointer (some ⟨A, 0, none⟩)] w fun e w' => e = .returned (.tuple #[]) ∧ SetA w' A (folG i G a b) ∧ w.grownBy w' (some A) := by
  have hli := hi.lt
  have hci := hi.cell
  have hb0 := ((Below.refl w.heap.size w).alloc (Nat.le_refl _) (.cells #[.int .u64 (word (a.first) 0), .int .u64 (word (a.first) 1), .int .u64 (word (a.first) 2), .int .u64 (word (a.first) 3), .int .u64 (word (a.last) 0), .int .u64 (word (a.last) 1), .int .u64 (word (a.last) 2), .int .u64 (word (a.last) 3)] 70)).alloc (by simp) (.cells #[.int .u64 (word (b.first) 0), .int .u64 (word (b.first) 1), .int .u64 (word (b.first) 2), .int .u64 (word (b.first) 3), .int .u64 (word (b.last) 0), .int .u64 (word (b.last) 1), .int .u64 (word (b.last) 2), .int .u64 (word (b.last) 3)] 70)
  have HA0 := hidden (hA.below hb0)
  have HB0 := hidden hb0
  have HS0 := hidden (show SptAt ((w.alloc (.cells #[.int .u64 (word (a.first) 0), .int .u64 (word (a.first) 1), .int .u64 (word (a.first) 2), .int .u64 (word (a.first) 3), .int .u64 (word (a.last) 0), .int .u64 (word (a.last) 1), .int .u64 (word (a.last) 2), .int .u64 (word (a.last) 3)] 70)).alloc (.cells #[.int .u64 (word (b.first) 0), .int .u64 (word (b.first) 1), .int .u64 (word (b.first) 2), .int .u64 (word (b.first) 3), .int .u64 (word (b.last) 0), .int .u64 (word (b.last) 1), .int .u64 (word (b.last) 2), .int .u64 (word (b.last) 3)] 70)) (w.heap.size + 1) b from heap_alloc2_new w _ _)
  have HH := hidden (fun w => spHas_calls a.last i w)
  have hlA := hA.lt
  clear hi hA hb0
  unfold sptV
  rcases hh : hasS a.last i with _ | _
  · have HG := hidden (show folG i G a b = G by unfold folG; rw [hh]; rfl)
    rw [hh] at HH
    clear hh
    go_enter Tryd.func52, Tryd.ntmps52
    go_wp2_with fail
    refine (HH.out _).mono ?_
    rintro e w1 ⟨rfl, hb1⟩
    have HA1 := hidden (HA0.out.below hb1)
    have HB1 := hidden (below_then HB0.out HB0.out.size hb1)
    clear hb1
    go_wp2
    go_end0
    exact ⟨rfl, by rw [HG.out]; exact HA1.out, gb_below HB1.out⟩
  · have HG := hidden (show folG i G a b = fOr G b.first by unfold folG; rw [hh]; rfl)
    rw [hh] at HH
    clear hh
    go_enter Tryd.func52, Tryd.ntmps52
    go_wp2_with fail
    refine (HH.out _).mono ?_
    rintro e w1 ⟨rfl, hb1⟩
    have HA1 := hidden (HA0.out.below hb1)
    have HB1 := hidden (below_then HB0.out HB0.out.size hb1)
    have hs1 := HS0.out.below hb1
    have hl1 := hs1.lt
    obtain ⟨d0, d1, d2, d3, d4, d5, d6, d7⟩ := hs1.cells
    obtain ⟨c0, c1, c2, c3⟩ := HA1.out.cells
    have hlA1 := HA1.out.lt
    clear hb1 hs1
    go_wp2_with fail
    refine (spWith_calls G b.first _).mono ?_
    rintro e w2 ⟨rfl, hb2⟩
    have HA2 := hidden (show w2.heap[A]? = some (.cells #[.int .u64 (word (G) 0), .int .u64 (word (G) 1), .int .u64 (word (G) 2), .int .u64 (word (G) 3)] 68 (0, 0)) from HA1.out.below hb2)
    have HB2 := hidden (below_then HB1.out HB1.out.size hb2)
    clear hb2 c0 c1 c2 c3 d0 d1 d2 d3 d4 d5 d6 d7
    dsimp only
    go_wp2_with (refine store_row (B := A) (cs := #[.int .u64 (word (fOr G b.first) 0), .int .u64 (word (fOr G b.first) 1), .int .u64 (word (fOr G b.first) 2), .int .u64 (word (fOr G b.first) 3)]) (old := #[.int .u64 (word (G) 0), .int .u64 (word (G) 1), .int .u64 (word (G) 2), .int .u64 (word (G) 3)]) (t := 68) rfl (ty := 68) (x := .tmp 3) (y := .tmp 13) rfl rfl rfl HA2.out 4 (by kernel_rfl) rfl rfl (by kernel_rfl) ?_; intro w6 hw6 hg6; have HL6 := hidden hw6; have HF := hidden (gb_trans (gb_below HB2.out) hg6); clear hw6 hg6)
    go_end0
    exact ⟨rfl, by rw [HG.out]; exact HL6.out, HF.out⟩
/-- what stays while chain goes on -/
structure Wch (w : World) (a b : Prt) (row : Option Nat) (wr : World) : Prop where
  one : PrtAt wr w.heap.size a
  two : PrtAt wr (w.heap.size + 1) b
  out : wr.heap[w.heap.size + 2]? = some (.cells #[.int .u64 0, .int .u64 0, .int .u64 0, .int .u64 0, .int .u64 0, .int .u64 0, .int .u64 0, .int .u64 0, .bool false] 72 (0, 0))
  frame : w.grownBy wr row
theorem Wch.below {w wr w' : World} {a b : Prt} {row : Option Nat} (h : Wch w a b row wr) (hb : Below wr.heap.size wr w') : Wch w a b row w' := ⟨h.one.below hb, h.two.below hb, (hb.block _ (Array.getElem?_eq_some_iff.1 h.out).1).trans h.out, gb_trans h.frame (gb_below hb)⟩
theorem Wch.meet {w wr w' : World} {a b : Prt} {row : Option Nat} (h : Wch w a b row wr) (hr : ∀ j, row = some j → j < w.heap.size) (hg : wr.grownBy w' row) : Wch w a b row w' :=
  ⟨(hg.block _ h.one.lt (fun e => by have := hr _ e.symm; omega)).trans h.one, (hg.block _ h.two.lt (fun e => by have := hr _ e.symm; omega)).trans h.two, (hg.block _ (Array.getElem?_eq_some_iff.1 h.out).1 (fun e => by have := hr _ e.symm; omega)).trans h.out, gb_trans h.frame hg⟩
attribute [local go_sem] evalR_tmp evalR_const evalR_global evalR_func
set_option maxHeartbeats 4000000 in
set_option maxRecDepth 100000 in
theorem chain_calls {w : World} {mB : Nat} {f : FuncId} {c : Array Value} {row : Option Nat} {J : List (Prt × Prt) → World → Prop} {D : List (Prt × Prt)} (a b : Prt)
    (e1 : ∀ args w, (callFunc f args).run Tryd.prog w = .ok (.enter f args) w) (hm : Boxed w mB 79 (.func (.func f) #[] c)) (hr : ∀ j, row = some j → j < w.heap.size)
    (hJ : J D w) (hJb : ∀ D w1 w2, J D w1 → Below w1.heap.size w1 w2 → J D w2) (hJo : ∀ D w1 w2 B, J D w1 → w.heap.size ≤ B → w1.grownBy w2 (some B) → J D w2)
    (HM : ∀ D w1 (a b : Prt), J D w1 → Calls Tryd.prog f (#[sptV a, sptV b] ++ c) w1 fun e w2 => e = .returned (.tuple #[]) ∧ J (D ++ [(a, b)]) w2 ∧ w1.grownBy w2 row) :
    Calls Tryd.prog 81 #[prtV a, prtV b, .pointer (some ⟨mB, 0, none⟩)] w fun e w' => e = .returned (prtV (thenP a b)) ∧ J (D ++ [(a, b)]) w' ∧ w.grownBy w' row := by
  have hlm := hm.lt
  have hcm := hm.cell
  have hst := Wpo.start w a b
  have hc3 := (hst.frame.cell (p := ⟨mB, 0, none⟩) hlm).trans hcm
  have HJ0 := hidden (hJb _ _ _ (hJb _ _ _ (hJb _ _ _ hJ ((Below.refl w.heap.size w).alloc (Nat.le_refl _) (.cells #[.int .u64 (word (a.first) 0), .int .u64 (word (a.first) 1), .int .u64 (word (a.first) 2), .int .u64 (word (a.first) 3), .int .u64 (word (a.last) 0), .int .u64 (word (a.last) 1), .int .u64 (word (a.last) 2), .int .u64 (word (a.last) 3), .bool a.free] 72))) ((Below.refl _ _).alloc (Nat.le_refl _) (.cells #[.int .u64 (word (b.first) 0), .int .u64 (word (b.first) 1), .int .u64 (word (b.first) 2), .int .u64 (word (b.first) 3), .int .u64 (word (b.last) 0), .int .u64 (word (b.last) 1), .int .u64 (word (b.last) 2), .int .u64 (word (b.last) 3), .bool b.free] 72))) ((Below.refl _ _).alloc (Nat.le_refl _) (.cells #[.int .u64 0, .int .u64 0, .int .u64 0, .int .u64 0, .int .u64 0, .int .u64 0, .int .u64 0, .int .u64 0, .bool false] 72)))
  have HW0 := hidden (Wch.mk (row := row) hst.one hst.two hst.out (gb_below hst.frame))
  have HR := hidden hr
  have HM := hidden HM
  have HJB := hidden hJb
  have HJO := hidden hJo
  obtain ⟨T, hT⟩ : ∃ T, T = thenP a b := ⟨_, rfl⟩
  have HT := hidden (fun w => prtThen_calls a b w)
  rw [← hT] at HT ⊢
  clear hst hm hr hJ hJb hJo hT
  unfold prtV at HT ⊢
  go_enter Tryd.func81, Tryd.ntmps81
  go_wp2_with fail
  refine (HM.out D _ a b HJ0.out).mono ?_
  rintro e w1 ⟨rfl, hj1, hg1⟩
  have HJ1 := hidden hj1
  have HW1 := hidden (HW0.out.meet HR.out hg1)
  obtain ⟨c0, c1, c2, c3, c4, c5, c6, c7, c8⟩ := HW1.out.one.cells
  obtain ⟨d0, d1, d2, d3, d4, d5, d6, d7, d8⟩ := HW1.out.two.cells
  have hl0 := HW1.out.one.lt
  have hl1 := HW1.out.two.lt
  clear hj1 hg1
  go_wp2_with fail
  refine (HT.out _).mono ?_
  rintro e w2 ⟨rfl, hb2⟩
  have HJ2 := hidden (HJB.out _ _ _ HJ1.out hb2)
  have HW2 := hidden (HW1.out.below hb2)
  clear hb2 c0 c1 c2 c3 c4 c5 c6 c7 c8 d0 d1 d2 d3 d4 d5 d6 d7 d8
  dsimp only
  go_wp2_with (refine store_row (B := w.heap.size + 2) (cs := #[.int .u64 (word (T.first) 0), .int .u64 (word (T.first) 1), .int .u64 (word (T.first) 2), .int .u64 (word (T.first) 3), .int .u64 (word (T.last) 0), .int .u64 (word (T.last) 1), .int .u64 (word (T.last) 2), .int .u64 (word (T.last) 3), .bool T.free]) (old := #[.int .u64 0, .int .u64 0, .int .u64 0, .int .u64 0, .int .u64 0, .int .u64 0, .int .u64 0, .int .u64 0, .bool false]) (t := 72) rfl (ty := 72) (x := .tmp 5) (y := .tmp 14) rfl rfl rfl HW2.out.out 9 (by kernel_rfl) rfl rfl (by kernel_rfl) ?_; intro w6 hw6 hg6; have HL6 := hidden hw6; have HJ6 := hidden (HJO.out _ _ _ _ HJ2.out (by omega) hg6); have HF := hidden (gb_own HW2.out.frame hg6 (by omega)); clear hw6 hg6)
  exact ret_prt (l := T) Tryd.results81 rfl rfl HL6.out ⟨rfl, HJ6.out, HF.out⟩
/-- what stays while repeat goes on -/
structure Wre (w : World) (a : Prt) (row : Option Nat) (wr : World) : Prop where
  one : PrtAt wr w.heap.size a
  out : wr.heap[w.heap.size + 1]? = some (.cells #[.int .u64 0, .int .u64 0, .int .u64 0, .int .u64 0, .int .u64 0, .int .u64 0, .int .u64 0, .int .u64 0, .bool false] 72 (0, 0))
  frame : w.grownBy wr row
theorem Wre.meet {w wr w' : World} {a : Prt} {row : Option Nat} (h : Wre w a row wr) (hr : ∀ j, row = some j → j < w.heap.size) (hg : wr.grownBy w' row) : Wre w a row w' :=
  ⟨(hg.block _ h.one.lt (fun e => by have := hr _ e.symm; omega)).trans h.one, (hg.block _ (Array.getElem?_eq_some_iff.1 h.out).1 (fun e => by have := hr _ e.symm; omega)).trans h.out, gb_trans h.frame hg⟩
set_option maxHeartbeats 4000000 in
set_option maxRecDepth 100000 in
theorem repeat_calls {w : World} {mB : Nat} {f : FuncId} {c : Array Value} {row : Option Nat} {J : List (Prt × Prt) → World → Prop} {D : List (Prt × Prt)} (a : Prt)
    (e1 : ∀ args w, (callFunc f args).run Tryd.prog w = .ok (.enter f args) w) (hm : Boxed w mB 79 (.func (.func f) #[] c)) (hr : ∀ j, row = some j → j < w.heap.size)
    (hJ : J D w) (hJb : ∀ D w1 w2, J D w1 → Below w1.heap.size w1 w2 → J D w2) (hJo : ∀ D w1 w2 B, J D w1 → w.heap.size ≤ B → w1.grownBy w2 (some B) → J D w2)
    (HM : ∀ D w1 (a b : Prt), J D w1 → Calls Tryd.prog f (#[sptV a, sptV b] ++ c) w1 fun e w2 => e = .returned (.tuple #[]) ∧ J (D ++ [(a, b)]) w2 ∧ w1.grownBy w2 row) :
    Calls Tryd.prog 83 #[prtV a, .pointer (some ⟨mB, 0, none⟩)] w fun e w' => e = .returned (prtV a) ∧ J (D ++ [(a, a)]) w' ∧ w.grownBy w' row := by
  have hlm := hm.lt
  have hcm := hm.cell
  have HJ0 := hidden (hJb _ _ _ (hJb _ _ _ hJ ((Below.refl w.heap.size w).alloc (Nat.le_refl _) (.cells #[.int .u64 (word (a.first) 0), .int .u64 (word (a.first) 1), .int .u64 (word (a.first) 2), .int .u64 (word (a.first) 3), .int .u64 (word (a.last) 0), .int .u64 (word (a.last) 1), .int .u64 (word (a.last) 2), .int .u64 (word (a.last) 3), .bool a.free] 72))) ((Below.refl _ _).alloc (Nat.le_refl _) (.cells #[.int .u64 0, .int .u64 0, .int .u64 0, .int .u64 0, .int .u64 0, .int .u64 0, .int .u64 0, .int .u64 0, .bool false] 72)))
  have HW0 := hidden (Wre.mk (w := w) (a := a) (row := row) (heap_alloc2_old w (.cells #[.int .u64 (word (a.first) 0), .int .u64 (word (a.first) 1), .int .u64 (word (a.first) 2), .int .u64 (word (a.first) 3), .int .u64 (word (a.last) 0), .int .u64 (word (a.last) 1), .int .u64 (word (a.last) 2), .int .u64 (word (a.last) 3), .bool a.free] 72) (.cells #[.int .u64 0, .int .u64 0, .int .u64 0, .int .u64 0, .int .u64 0, .int .u64 0, .int .u64 0, .int .u64 0, .bool false] 72)) (heap_alloc2_new w _ _) (gb_trans (gb_alloc _) (gb_alloc _)))
  have HR := hidden hr
  have HM := hidden HM
  have HJO := hidden hJo
  have hc3 := (((Below.refl w.heap.size w).alloc (Nat.le_refl _) (.cells #[.int .u64 (word (a.first) 0), .int .u64 (word (a.first) 1), .int .u64 (word (a.first) 2), .int .u64 (word (a.first) 3), .int .u64 (word (a.last) 0), .int .u64 (word (a.last) 1), .int .u64 (word (a.last) 2), .int .u64 (word (a.last) 3), .bool a.free] 72)).alloc (by simp) (.cells #[.int .u64 0, .int .u64 0, .int .u64 0, .int .u64 0, .int .u64 0, .int .u64 0, .int .u64 0, .int .u64 0, .bool false] 72)).cell (p := ⟨mB, 0, none⟩) hlm |>.trans hcm
  clear hm hr hJ hJb hJo
  unfold prtV
  go_enter Tryd.func83, Tryd.ntmps83
  go_wp2_with fail
  refine (HM.out D _ a a HJ0.out).mono ?_
  rintro e w1 ⟨rfl, hj1, hg1⟩
  have HJ1 := hidden hj1
  have HW1 := hidden (HW0.out.meet HR.out hg1)
  obtain ⟨c0, c1, c2, c3, c4, c5, c6, c7, c8⟩ := HW1.out.one.cells
  have hl0 := HW1.out.one.lt
  clear hj1 hg1
  go_wp2_with (refine store_row (B := w.heap.size + 1) (cs := #[.int .u64 (word (a.first) 0), .int .u64 (word (a.first) 1), .int .u64 (word (a.first) 2), .int .u64 (word (a.first) 3), .int .u64 (word (a.last) 0), .int .u64 (word (a.last) 1), .int .u64 (word (a.last) 2), .int .u64 (word (a.last) 3), .bool a.free]) (old := #[.int .u64 0, .int .u64 0, .int .u64 0, .int .u64 0, .int .u64 0, .int .u64 0, .int .u64 0, .int .u64 0, .bool false]) (t := 72) rfl (ty := 72) (x := .tmp 3) (y := .tmp 10) rfl rfl rfl HW1.out.out 9 (by kernel_rfl) rfl rfl (by kernel_rfl) ?_; intro w6 hw6 hg6; have HL6 := hidden hw6; have HJ6 := hidden (HJO.out _ _ _ _ HJ1.out (by omega) hg6); have HF := hidden (gb_own HW1.out.frame hg6 (by omega)); clear hw6 hg6)
  exact ret_prt (l := a) Tryd.results83 rfl rfl HL6.out ⟨rfl, HJ6.out, HF.out⟩
end Go.Proofs.YtbokhofdgdcpdaaDoor

/- What read keeps of each tree, and which spots met: the mathematics, without the program. -/
namespace Go.Proofs.YtbokhofdgdcpdaaDoor

/-- what is known of a tree whose first spot is i -/
def prtE (e : Ex) (i : Nat) : Prt := ⟨gF e i, gL e i, nul e⟩
/-- of trees that stand behind one another -/
def fPr : List Ex → Nat → List Prt
  | [], _ => []
  | t :: r, i => prtE t i :: fPr r (i + plc t)
theorem fPr_len : ∀ (l : List Ex) (i : Nat), (fPr l i).length = l.length
  | [], _ => rfl
  | x :: r, i => by simp [fPr, fPr_len r]
theorem fPr_append : ∀ (l m : List Ex) (i : Nat), fPr (l ++ m) i = fPr l i ++ fPr m (i + plcs l)
  | [], m, i => by simp [fPr, plcs]
  | x :: r, m, i => by
    rw [List.cons_append, fPr, fPr_append r m, fPr, plcs, List.cons_append, Nat.add_assoc]
theorem prt_set (f : Nat → Bool) (i : Nat) : prtE (.set f) i = ⟨fOne i, fOne i, false⟩ := rfl
theorem prt_emp (i : Nat) : prtE .emp i = ⟨fNone, fNone, true⟩ := rfl
theorem prt_cat (a b : Ex) (i : Nat) : prtE (.cat a b) i = thenP (prtE a i) (prtE b (i + plc a)) := by
  unfold prtE thenP
  simp only [gF, gL, nul]
  congr 1
  · cases nul a <;> rfl
  · cases hb : nul b with
    | true =>
      simp only [if_pos, cond_true]
      funext n
      simp [f2, fOr]
    | false => rfl
theorem prt_alt (a b : Ex) (i : Nat) : prtE (.alt a b) i = ⟨fOr (gF a i) (gF b (i + plc a)), fOr (gL a i) (gL b (i + plc a)), nul a || nul b⟩ := rfl
theorem prt_un (k : Int) (a : Ex) (i : Nat) : prtE (.un k a) i = ⟨gF a i, gL a i, if k = 6 then nul a else true⟩ := rfl
/-- which parts met, in the order of the steps -/
def met : Ex → Nat → List (Prt × Prt)
  | .set _, _ => []
  | .emp, _ => []
  | .cat a b, i => met a i ++ met b (i + plc a) ++ [(prtE a i, prtE b (i + plc a))]
  | .alt a b, i => met a i ++ met b (i + plc a)
  | .un k a, i => if k = 7 then met a i else met a i ++ [(prtE a i, prtE a i)]
def fMet : List Ex → Nat → List (Prt × Prt)
  | [], _ => []
  | t :: r, i => met t i ++ fMet r (i + plc t)
theorem fMet_append : ∀ (l m : List Ex) (i : Nat), fMet (l ++ m) i = fMet l i ++ fMet m (i + plcs l)
  | [], m, i => by simp [fMet, plcs]
  | x :: r, m, i => by
    rw [List.cons_append, fMet, fMet_append r m, fMet, plcs, List.append_assoc, Nat.add_assoc]
/-- what follows p, of parts that met -/
theorem met_iff : ∀ (e : Ex) (i p q : Nat), (met e i).any (fun x => x.1.last p && x.2.first q) = gE e i p q
  | .set _, _, _, _ => rfl
  | .emp, _, _, _ => rfl
  | .cat a b, i, p, q => by
    simp only [met, gE, List.any_append, List.any_cons, List.any_nil, Bool.or_false, met_iff a, met_iff b]
    rfl
  | .alt a b, i, p, q => by simp only [met, gE, List.any_append, met_iff a, met_iff b]
  | .un k a, i, p, q => by
    simp only [met, gE]
    by_cases h : k = 7
    · rw [if_pos h, if_pos h, met_iff a]
    · rw [if_neg h, if_neg h]
      simp only [List.any_append, List.any_cons, List.any_nil, Bool.or_false, met_iff a]
      rfl
/-- the set of Follow, behind all that met -/
theorem folG_all (i : Nat) (hi : i < 256) : ∀ (D : List (Prt × Prt)) (G : Nat → Bool) (q : Nat), (D.foldl (fun G x => folG i G x.1 x.2) G) q = (G q || D.any fun x => x.1.last i && x.2.first q)
  | [], G, q => by simp
  | x :: r, G, q => by
    rw [List.foldl_cons, folG_all i hi r, List.any_cons, ← Bool.or_assoc]
    refine congrArg (· || r.any fun x => x.1.last i && x.2.first q) ?_
    have h0 : (0 : Int) ≤ (i : Int) := by omega
    have h1 : ((i : Int)) < 256 := by omega
    have hh : hasS x.1.last (i : Int) = x.1.last i := by
      unfold hasS
      rw [decide_eq_true h0, decide_eq_true h1, Bool.true_and, Bool.true_and, Int.toNat_natCast]
    unfold folG
    rw [hh]
    cases x.1.last i
    · rw [cond_false, Bool.false_and, Bool.or_false]
    · rw [cond_true, Bool.true_and]
      rfl
theorem folG_out (i : Int) (hi : ¬ (0 ≤ i ∧ i < 256)) (G : Nat → Bool) (a b : Prt) : folG i G a b = G := by
  unfold folG
  have : hasS a.last i = false := by
    unfold hasS
    by_cases h0 : 0 ≤ i
    · simp [show ¬ i < 256 by omega]
    · simp [h0]
  rw [this]
  rfl
end Go.Proofs.YtbokhofdgdcpdaaDoor
