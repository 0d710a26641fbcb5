/- SpPart, SpThen, SpMeet, put together. -/
import Derived.Test.YtbokhofdgdcpdaaDoorSp12
import Derived.Test.YtbokhofdgdcpdaaDoorSp10
import Derived.RangeFuncBox
import Derived.Laws.MakeOwn
import Derived.Lib.SmallJoins
import Derived.Laws.CopyRow
/- Parts and their spots in memory; contracts of orNone, single, beside, or. -/
namespace Go.Proofs.YtbokhofdgdcpdaaDoor
open Go.RowKit Go.Lib Go.Joins

/-- what is known of a part of an expression -/
structure Prt where
  first : Nat → Bool
  last : Nat → Bool
  free : Bool
def prtV (l : Prt) : Value := .agg #[.int .u64 (word (l.first) 0), .int .u64 (word (l.first) 1), .int .u64 (word (l.first) 2), .int .u64 (word (l.first) 3), .int .u64 (word (l.last) 0), .int .u64 (word (l.last) 1), .int .u64 (word (l.last) 2), .int .u64 (word (l.last) 3), .bool l.free]
def sptV (l : Prt) : Value := .agg #[.int .u64 (word (l.first) 0), .int .u64 (word (l.first) 1), .int .u64 (word (l.first) 2), .int .u64 (word (l.first) 3), .int .u64 (word (l.last) 0), .int .u64 (word (l.last) 1), .int .u64 (word (l.last) 2), .int .u64 (word (l.last) 3)]
theorem word_zero (i : Nat) : (word fNone i : Int) = 0 := by rw [word_none]; rfl
/-- a struct that is stored whole in a block of its own type -/
theorem store_row {ops : Array Oper} {rest : List Oper} {o : Oper} {a : Act} {w : World} {Q : Exit → Act → World → Prop} (hgd : o.guard = none) {ty : TypeId} {x y : Operand} (ho : o.op = .store ty x y)
    {B : Nat} {cs old : Array Value} {t : TypeId} (hx : a.eval x = .pointer (some ⟨B, 0, none⟩)) (hy : a.eval y = .agg cs) (hg : w.heap[B]? = some (.cells old t (0, 0))) (n : Nat) (hi : (Tryd.prog.info? ty).map (·.size) = some n)
    (hold : old.size = n) (hcs : cs.size = n) (h1 : cs.all (·.oneCell') = true) (h : ∀ w', w'.heap[B]? = some (.cells cs t (0, 0)) → w.grownBy w' (some B) → wpList Tryd.prog ops Q rest (a.put o.dst undef) w') : wpList Tryd.prog ops Q (o :: rest) a w :=
  wpList_store_row hgd ty x y ho B cs hx hy t old hg (by rw [hcs]; exact hi) (by rw [hcs]; exact hold) h1 (h _ (setRow_heap w B _ _ t _ hg) ⟨rfl, rfl, rfl, by simp, fun k _ hk => setRow_other w B k cs (by simpa using hk)⟩)
/-- block B has this part -/
def PrtAt (w : World) (B : Nat) (l : Prt) : Prop := w.heap[B]? = some (.cells #[.int .u64 (word (l.first) 0), .int .u64 (word (l.first) 1), .int .u64 (word (l.first) 2), .int .u64 (word (l.first) 3), .int .u64 (word (l.last) 0), .int .u64 (word (l.last) 1), .int .u64 (word (l.last) 2), .int .u64 (word (l.last) 3), .bool l.free] 72 (0, 0))
theorem PrtAt.lt {w : World} {B : Nat} {l : Prt} (h : PrtAt w B l) : B < w.heap.size := (Array.getElem?_eq_some_iff.1 h).1
theorem PrtAt.below {w w' : World} {B : Nat} {l : Prt} (h : PrtAt w B l) (hb : Below w.heap.size w w') : PrtAt w' B l := (hb.block B h.lt).trans h
def PrtCells (w : World) (B : Nat) (l : Prt) : Prop :=
  w.cell? ⟨B, 0, none⟩ = some (.int .u64 (word l.first 0)) ∧ w.cell? ⟨B, 1, none⟩ = some (.int .u64 (word l.first 1)) ∧ w.cell? ⟨B, 2, none⟩ = some (.int .u64 (word l.first 2)) ∧ w.cell? ⟨B, 3, none⟩ = some (.int .u64 (word l.first 3)) ∧ w.cell? ⟨B, 4, none⟩ = some (.int .u64 (word l.last 0)) ∧ w.cell? ⟨B, 5, none⟩ = some (.int .u64 (word l.last 1)) ∧ w.cell? ⟨B, 6, none⟩ = some (.int .u64 (word l.last 2)) ∧ w.cell? ⟨B, 7, none⟩ = some (.int .u64 (word l.last 3)) ∧ w.cell? ⟨B, 8, none⟩ = some (.bool l.free)
theorem PrtAt.cells {w : World} {B : Nat} {l : Prt} (h : PrtAt w B l) : PrtCells w B l := by
  have h' : w.heap[B]? = some (.cells #[.int .u64 (word (l.first) 0), .int .u64 (word (l.first) 1), .int .u64 (word (l.first) 2), .int .u64 (word (l.first) 3), .int .u64 (word (l.last) 0), .int .u64 (word (l.last) 1), .int .u64 (word (l.last) 2), .int .u64 (word (l.last) 3), .bool l.free] 72 (0, 0)) := h
  exact ⟨cell_of_row w B 0 _ _ _ h', cell_of_row w B 1 _ _ _ h', cell_of_row w B 2 _ _ _ h', cell_of_row w B 3 _ _ _ h', cell_of_row w B 4 _ _ _ h', cell_of_row w B 5 _ _ _ h', cell_of_row w B 6 _ _ _ h', cell_of_row w B 7 _ _ _ h', cell_of_row w B 8 _ _ _ h'⟩
theorem PrtAt.frozen {w : World} {B : Nat} {l : Prt} (h : PrtAt w B l) (j : Nat) : w.frozen? ⟨B, j, none⟩ = false := frozen_of_row w B j _ _ h
theorem ret_prt {fn : Func} {R : Ending → World → Prop} {a : Act} {w : World} {B p : Nat} {l : Prt} (h : fn.results = #[.cell p 72]) (hp : a.tmps.getD p undef = .pointer (some ⟨B, 0, none⟩))
    (hd : a.defers = []) (hS : PrtAt w B l) (hR : R (.returned (prtV l)) w) : bodyPost Tryd.prog fn R .ret a w :=
  bodyPost_ret (results_cell_row h _ w B 72 _ (0, 0) _ hp hS Tryd.underlying72 rfl (by kernel_rfl)) hd hR
/-- block B has these spots -/
def SptAt (w : World) (B : Nat) (l : Prt) : Prop := w.heap[B]? = some (.cells #[.int .u64 (word (l.first) 0), .int .u64 (word (l.first) 1), .int .u64 (word (l.first) 2), .int .u64 (word (l.first) 3), .int .u64 (word (l.last) 0), .int .u64 (word (l.last) 1), .int .u64 (word (l.last) 2), .int .u64 (word (l.last) 3)] 70 (0, 0))
theorem SptAt.lt {w : World} {B : Nat} {l : Prt} (h : SptAt w B l) : B < w.heap.size := (Array.getElem?_eq_some_iff.1 h).1
theorem SptAt.below {w w' : World} {B : Nat} {l : Prt} (h : SptAt w B l) (hb : Below w.heap.size w w') : SptAt w' B l := (hb.block B h.lt).trans h
def SptCells (w : World) (B : Nat) (l : Prt) : Prop :=
  w.cell? ⟨B, 0, none⟩ = some (.int .u64 (word l.first 0)) ∧ w.cell? ⟨B, 1, none⟩ = some (.int .u64 (word l.first 1)) ∧ w.cell? ⟨B, 2, none⟩ = some (.int .u64 (word l.first 2)) ∧ w.cell? ⟨B, 3, none⟩ = some (.int .u64 (word l.first 3)) ∧ w.cell? ⟨B, 4, none⟩ = some (.int .u64 (word l.last 0)) ∧ w.cell? ⟨B, 5, none⟩ = some (.int .u64 (word l.last 1)) ∧ w.cell? ⟨B, 6, none⟩ = some (.int .u64 (word l.last 2)) ∧ w.cell? ⟨B, 7, none⟩ = some (.int .u64 (word l.last 3))
theorem SptAt.cells {w : World} {B : Nat} {l : Prt} (h : SptAt w B l) : SptCells w B l := by
  have h' : w.heap[B]? = some (.cells #[.int .u64 (word (l.first) 0), .int .u64 (word (l.first) 1), .int .u64 (word (l.first) 2), .int .u64 (word (l.first) 3), .int .u64 (word (l.last) 0), .int .u64 (word (l.last) 1), .int .u64 (word (l.last) 2), .int .u64 (word (l.last) 3)] 70 (0, 0)) := h
  exact ⟨cell_of_row w B 0 _ _ _ h', cell_of_row w B 1 _ _ _ h', cell_of_row w B 2 _ _ _ h', cell_of_row w B 3 _ _ _ h', cell_of_row w B 4 _ _ _ h', cell_of_row w B 5 _ _ _ h', cell_of_row w B 6 _ _ _ h', cell_of_row w B 7 _ _ _ h'⟩
theorem ret_spt {fn : Func} {R : Ending → World → Prop} {a : Act} {w : World} {B p : Nat} {l : Prt} (h : fn.results = #[.cell p 70]) (hp : a.tmps.getD p undef = .pointer (some ⟨B, 0, none⟩))
    (hd : a.defers = []) (hS : SptAt w B l) (hR : R (.returned (sptV l)) w) : bodyPost Tryd.prog fn R .ret a w :=
  bodyPost_ret (results_cell_row h _ w B 70 _ (0, 0) _ hp hS Tryd.underlying70 rfl (by kernel_rfl)) hd hR
attribute [local go_sem] evalR_tmp evalR_const evalR_global evalR_func
set_option maxHeartbeats 2000000 in
set_option maxRecDepth 100000 in
theorem prtNone_calls (a : Prt) (w : World) : Calls Tryd.prog 86 #[prtV a] w fun e w' => e = .returned (prtV ⟨a.first, a.last, true⟩) ∧ Below w.heap.size w w' := by
  unfold prtV
  go_enter Tryd.func86, Tryd.ntmps86
  go_wp2
  exact ret_prt (l := ⟨a.first, a.last, true⟩) Tryd.results86 rfl rfl (heap_alloc2_new w _ _) ⟨rfl, ((Below.refl w.heap.size w).alloc (Nat.le_refl _) _).alloc (by simp) _⟩
set_option maxHeartbeats 2000000 in
set_option maxRecDepth 100000 in
theorem prtOne_calls (n : Nat) (w : World) (hn : n < 256) : Calls Tryd.prog 84 #[.int .i64 n] w fun e w' => e = .returned (prtV ⟨fOne n, fOne n, false⟩) ∧ Below w.heap.size w w' := by
  have HP := hidden (show (w.alloc (.cells #[.int .u64 0, .int .u64 0, .int .u64 0, .int .u64 0, .int .u64 0, .int .u64 0, .int .u64 0, .int .u64 0, .bool false] 72)).heap[w.heap.size]? = some (.cells #[.int .u64 0, .int .u64 0, .int .u64 0, .int .u64 0, .int .u64 0, .int .u64 0, .int .u64 0, .int .u64 0, .bool false] 72 (0, 0)) from heap_alloc_new w _)
  have HB := hidden ((Below.refl w.heap.size w).alloc (Nat.le_refl _) (.cells #[.int .u64 0, .int .u64 0, .int .u64 0, .int .u64 0, .int .u64 0, .int .u64 0, .int .u64 0, .int .u64 0, .bool false] 72))
  have HC := hidden (fun w => spOne_calls (n : Int) w (by omega) (by omega))
  simp only [Int.toNat_natCast] at HC
  generalize hv : prtV ⟨fOne n, fOne n, false⟩ = v
  have HV := hidden hv
  clear hv
  go_enter Tryd.func84, Tryd.ntmps84
  go_wp2_with fail
  refine (HC.out _).mono ?_
  rintro e w1 ⟨rfl, hb1⟩
  have HB1 := hidden (below_then HB.out HB.out.size hb1)
  have HP1 := hidden ((hb1.block _ (Array.getElem?_eq_some_iff.1 HP.out).1).trans HP.out)
  clear hb1
  go_wp2_with fail
  refine (HC.out _).mono ?_
  rintro e w2 ⟨rfl, hb2⟩
  have HB2 := hidden (below_then HB1.out HB1.out.size hb2)
  have HP2 := hidden ((hb2.block _ (Array.getElem?_eq_some_iff.1 HP1.out).1).trans HP1.out)
  clear hb2
  dsimp only
  go_wp2_with (refine store_row (B := w.heap.size) (cs := #[.int .u64 (word (fOne n) 0), .int .u64 (word (fOne n) 1), .int .u64 (word (fOne n) 2), .int .u64 (word (fOne n) 3), .int .u64 (word (fOne n) 0), .int .u64 (word (fOne n) 1), .int .u64 (word (fOne n) 2), .int .u64 (word (fOne n) 3), .bool false]) (old := #[.int .u64 0, .int .u64 0, .int .u64 0, .int .u64 0, .int .u64 0, .int .u64 0, .int .u64 0, .int .u64 0, .bool false]) (t := 72) rfl (ty := 72) (x := .tmp 2) (y := .tmp 8) rfl rfl rfl HP2.out 9 (by kernel_rfl) rfl rfl (by kernel_rfl) ?_; intro w6 hw6 hg6; have HL6 := hidden hw6; have HF := hidden (HB2.out.grown hg6 HB2.out.size (fun j e => by simp only [Option.some.injEq] at e; omega)); clear hw6 hg6)
  exact ret_prt (l := ⟨fOne n, fOne n, false⟩) Tryd.results84 rfl rfl HL6.out ⟨by rw [HV.out], HF.out⟩
/-- what stays while beside goes on -/
structure Wsb (w : World) (a b : Prt) (wr : World) : Prop where
  one : SptAt wr w.heap.size a
  two : SptAt wr (w.heap.size + 1) b
  out : wr.heap[w.heap.size + 2]? = some (.cells #[.int .u64 0, .int .u64 0, .int .u64 0, .int .u64 0, .int .u64 0, .int .u64 0, .int .u64 0, .int .u64 0] 70 (0, 0))
  frame : Below w.heap.size w wr
theorem Wsb.below {w wr w' : World} {a b : Prt} (h : Wsb w a b wr) (hb : Below wr.heap.size wr w') : Wsb w a b w' := ⟨h.one.below hb, h.two.below hb, (hb.block _ (Array.getElem?_eq_some_iff.1 h.out).1).trans h.out, below_then h.frame h.frame.size hb⟩
theorem Wsb.cells {w wr : World} {a b : Prt} (h : Wsb w a b wr) : SptCells wr w.heap.size a ∧ SptCells wr (w.heap.size + 1) b := ⟨h.one.cells, h.two.cells⟩
theorem Wsb.start (w : World) (a b : Prt) : Wsb w a b (((w.alloc (.cells #[.int .u64 (word (a.first) 0), .int .u64 (word (a.first) 1), .int .u64 (word (a.first) 2), .int .u64 (word (a.first) 3), .int .u64 (word (a.last) 0), .int .u64 (word (a.last) 1), .int .u64 (word (a.last) 2), .int .u64 (word (a.last) 3)] 70)).alloc (.cells #[.int .u64 (word (b.first) 0), .int .u64 (word (b.first) 1), .int .u64 (word (b.first) 2), .int .u64 (word (b.first) 3), .int .u64 (word (b.last) 0), .int .u64 (word (b.last) 1), .int .u64 (word (b.last) 2), .int .u64 (word (b.last) 3)] 70)).alloc (.cells #[.int .u64 0, .int .u64 0, .int .u64 0, .int .u64 0, .int .u64 0, .int .u64 0, .int .u64 0, .int .u64 0] 70)) := by
  have h1 : SptAt (w.alloc (.cells #[.int .u64 (word (a.first) 0), .int .u64 (word (a.first) 1), .int .u64 (word (a.first) 2), .int .u64 (word (a.first) 3), .int .u64 (word (a.last) 0), .int .u64 (word (a.last) 1), .int .u64 (word (a.last) 2), .int .u64 (word (a.last) 3)] 70)) w.heap.size a := heap_alloc_new w _
  have b1 := (Below.refl w.heap.size w).alloc (Nat.le_refl _) (.cells #[.int .u64 (word (a.first) 0), .int .u64 (word (a.first) 1), .int .u64 (word (a.first) 2), .int .u64 (word (a.first) 3), .int .u64 (word (a.last) 0), .int .u64 (word (a.last) 1), .int .u64 (word (a.last) 2), .int .u64 (word (a.last) 3)] 70)
  have h2 : SptAt ((w.alloc (.cells #[.int .u64 (word (a.first) 0), .int .u64 (word (a.first) 1), .int .u64 (word (a.first) 2), .int .u64 (word (a.first) 3), .int .u64 (word (a.last) 0), .int .u64 (word (a.last) 1), .int .u64 (word (a.last) 2), .int .u64 (word (a.last) 3)] 70)).alloc (.cells #[.int .u64 (word (b.first) 0), .int .u64 (word (b.first) 1), .int .u64 (word (b.first) 2), .int .u64 (word (b.first) 3), .int .u64 (word (b.last) 0), .int .u64 (word (b.last) 1), .int .u64 (word (b.last) 2), .int .u64 (word (b.last) 3)] 70)) (w.heap.size + 1) b := heap_alloc2_new w _ _
  have h3 := heap_alloc_new ((w.alloc (.cells #[.int .u64 (word (a.first) 0), .int .u64 (word (a.first) 1), .int .u64 (word (a.first) 2), .int .u64 (word (a.first) 3), .int .u64 (word (a.last) 0), .int .u64 (word (a.last) 1), .int .u64 (word (a.last) 2), .int .u64 (word (a.last) 3)] 70)).alloc (.cells #[.int .u64 (word (b.first) 0), .int .u64 (word (b.first) 1), .int .u64 (word (b.first) 2), .int .u64 (word (b.first) 3), .int .u64 (word (b.last) 0), .int .u64 (word (b.last) 1), .int .u64 (word (b.last) 2), .int .u64 (word (b.last) 3)] 70)) (.cells #[.int .u64 0, .int .u64 0, .int .u64 0, .int .u64 0, .int .u64 0, .int .u64 0, .int .u64 0, .int .u64 0] 70)
  have hs : ((w.alloc (.cells #[.int .u64 (word (a.first) 0), .int .u64 (word (a.first) 1), .int .u64 (word (a.first) 2), .int .u64 (word (a.first) 3), .int .u64 (word (a.last) 0), .int .u64 (word (a.last) 1), .int .u64 (word (a.last) 2), .int .u64 (word (a.last) 3)] 70)).alloc (.cells #[.int .u64 (word (b.first) 0), .int .u64 (word (b.first) 1), .int .u64 (word (b.first) 2), .int .u64 (word (b.first) 3), .int .u64 (word (b.last) 0), .int .u64 (word (b.last) 1), .int .u64 (word (b.last) 2), .int .u64 (word (b.last) 3)] 70)).heap.size = w.heap.size + 2 := by simp
  rw [hs] at h3
  exact ⟨(h1.below ((Below.refl _ _).alloc (Nat.le_refl _) _)).below ((Below.refl _ _).alloc (Nat.le_refl _) _), h2.below ((Below.refl _ _).alloc (Nat.le_refl _) _), h3, (b1.alloc (by simp) _).alloc (by simp; omega) _⟩
def Lsb (w : World) (a b : Prt) : List (Value → World → Prop) := [Is (.pointer (some ⟨w.heap.size, 0, none⟩)), Is (.agg #[.int .u64 (word (a.first) 0), .int .u64 (word (a.first) 1), .int .u64 (word (a.first) 2), .int .u64 (word (a.first) 3)]), Is (.pointer (some ⟨w.heap.size + 1, 0, none⟩)), Is (.agg #[.int .u64 (word (b.first) 0), .int .u64 (word (b.first) 1), .int .u64 (word (b.first) 2), .int .u64 (word (b.first) 3)]), Is (.agg #[.int .u64 (word (fOr a.first b.first) 0), .int .u64 (word (fOr a.first b.first) 1), .int .u64 (word (fOr a.first b.first) 2), .int .u64 (word (fOr a.first b.first) 3)]), Is (.pointer (some ⟨w.heap.size, 4, none⟩)), Is (.agg #[.int .u64 (word (a.last) 0), .int .u64 (word (a.last) 1), .int .u64 (word (a.last) 2), .int .u64 (word (a.last) 3)]), Is (.pointer (some ⟨w.heap.size + 1, 4, none⟩)), Is (.agg #[.int .u64 (word (b.last) 0), .int .u64 (word (b.last) 1), .int .u64 (word (b.last) 2), .int .u64 (word (b.last) 3)]), Is (.agg #[.int .u64 (word (fOr a.last b.last) 0), .int .u64 (word (fOr a.last b.last) 1), .int .u64 (word (fOr a.last b.last) 2), .int .u64 (word (fOr a.last b.last) 3)]), Is (.agg #[.int .u64 (word (fOr a.first b.first) 0), .int .u64 (word (fOr a.first b.first) 1), .int .u64 (word (fOr a.first b.first) 2), .int .u64 (word (fOr a.first b.first) 3), .int .u64 (word (fOr a.last b.last) 0), .int .u64 (word (fOr a.last b.last) 1), .int .u64 (word (fOr a.last b.last) 2), .int .u64 (word (fOr a.last b.last) 3)])]
set_option maxHeartbeats 8000000 in
set_option maxRecDepth 100000 in
theorem beside_calls (a b : Prt) (w : World) : Calls Tryd.prog 94 #[sptV a, sptV b] w fun e w' => e = .returned (sptV ⟨fOr a.first b.first, fOr a.last b.last, a.free || b.free⟩) ∧ Below w.heap.size w w' := by
  unfold sptV
  go_enter Tryd.func94, Tryd.ntmps94
  go_wp2
  refine wp_region_stepsL 11 (typ (Lsb w a b)) (Wsb w a b) (by kernel_rfl) (by kernel_rfl) (by kernel_rfl) (by kernel_rfl) (by kernel_rfl) (by kernel_rfl) ?mono ?start ?step ?last
  case mono =>
    refine typ_mono ?_
    simp only [Lsb, List.forall_mem_cons]
    repeat' (first | exact is_mono _ | (intro p hp; cases hp; done) | exact (fun v w w' h _ => h) | refine And.intro ?_ ?_)
  case start => exact (Wsb.start w a b).below (Below.refl _ _).drew
  case last =>
    intro a1 w1 hs hv hW
    have h4 : a1.tmps.getD 4 undef = .pointer (some ⟨w.heap.size + 2, 0, none⟩) := hs.slot 4 (by kernel_rfl)
    have h23 : a1.tmps.getD 15 undef = (.agg #[.int .u64 (word (fOr a.first b.first) 0), .int .u64 (word (fOr a.first b.first) 1), .int .u64 (word (fOr a.first b.first) 2), .int .u64 (word (fOr a.first b.first) 3), .int .u64 (word (fOr a.last b.last) 0), .int .u64 (word (fOr a.last b.last) 1), .int .u64 (word (fOr a.last b.last) 2), .int .u64 (word (fOr a.last b.last) 3)]) := hv 10 15 (by decide) (by kernel_rfl)
    have hd := hs.defers
    have HW := hidden hW
    clear hs hv hW
    refine wpOp_of_list rfl rfl ?_
    refine store_row (B := w.heap.size + 2) (cs := #[.int .u64 (word (fOr a.first b.first) 0), .int .u64 (word (fOr a.first b.first) 1), .int .u64 (word (fOr a.first b.first) 2), .int .u64 (word (fOr a.first b.first) 3), .int .u64 (word (fOr a.last b.last) 0), .int .u64 (word (fOr a.last b.last) 1), .int .u64 (word (fOr a.last b.last) 2), .int .u64 (word (fOr a.last b.last) 3)]) (old := #[.int .u64 0, .int .u64 0, .int .u64 0, .int .u64 0, .int .u64 0, .int .u64 0, .int .u64 0, .int .u64 0]) (t := 70) rfl (ty := 70) (x := .tmp 4) (y := .tmp 15) rfl h4 h23 HW.out.out 8 (by kernel_rfl) rfl rfl (by kernel_rfl) ?_
    intro w6 hw6 hg6
    have HL6 := hidden hw6
    have HF := hidden (HW.out.frame.grown hg6 (by have := HW.out.frame.size; omega) (fun j e => by simp only [Option.some.injEq] at e; omega))
    clear hw6 hg6
    go_wp2
    exact ret_spt (l := ⟨fOr a.first b.first, fOr a.last b.last, a.free || b.free⟩) Tryd.results94 h4 hd HL6.out ⟨rfl, HF.out⟩
  case step =>
    refine ⟨?_, ?_, ?_, ?_, ?_, ?_, ?_, ?_, ?_, ?_, ?_, trivial⟩
    · change StepOk _ _ _ _ _ _ _
      intro ρ w1 hF hW
      have HW := hidden hW
      clear hW
      have e2 : ρ 2 = .pointer (some ⟨w.heap.size, 0, none⟩) := hF 2 (by decide)
      clear hF
      unfold Does
      go_simp
      exact ⟨rfl, HW.out, Below.refl _ _⟩
    · change StepOk _ _ _ _ _ _ _
      intro ρ w1 hF hW
      have HW := hidden hW
      clear hW
      have e5 : ρ 5 = .pointer (some ⟨w.heap.size, 0, none⟩) := hF 5 (by decide)
      clear hF
      obtain ⟨⟨c0, c1, c2, c3, c4, c5, c6, c7⟩, d0, d1, d2, d3, d4, d5, d6, d7⟩ := HW.out.cells
      unfold Does
      go_simp
      exact ⟨rfl, HW.out, Below.refl _ _⟩
    · change StepOk _ _ _ _ _ _ _
      intro ρ w1 hF hW
      have HW := hidden hW
      clear hW
      have e3 : ρ 3 = .pointer (some ⟨w.heap.size + 1, 0, none⟩) := hF 3 (by decide)
      clear hF
      unfold Does
      go_simp
      exact ⟨rfl, HW.out, Below.refl _ _⟩
    · change StepOk _ _ _ _ _ _ _
      intro ρ w1 hF hW
      have HW := hidden hW
      clear hW
      have e7 : ρ 7 = .pointer (some ⟨w.heap.size + 1, 0, none⟩) := hF 7 (by decide)
      clear hF
      obtain ⟨⟨c0, c1, c2, c3, c4, c5, c6, c7⟩, d0, d1, d2, d3, d4, d5, d6, d7⟩ := HW.out.cells
      unfold Does
      go_simp
      exact ⟨rfl, HW.out, Below.refl _ _⟩
    · change StepOk _ _ _ _ _ _ _
      intro ρ w1 hF hW
      have HW := hidden hW
      clear hW
      have e6 : ρ 6 = (.agg #[.int .u64 (word (a.first) 0), .int .u64 (word (a.first) 1), .int .u64 (word (a.first) 2), .int .u64 (word (a.first) 3)]) := hF 6 (by decide)
      have e8 : ρ 8 = (.agg #[.int .u64 (word (b.first) 0), .int .u64 (word (b.first) 1), .int .u64 (word (b.first) 2), .int .u64 (word (b.first) 3)]) := hF 8 (by decide)
      clear hF
      unfold Does
      go_simp
      refine (spWith_calls _ _ _).mono ?_
      rintro e w2 ⟨rfl, hb⟩
      exact ⟨_, rfl, rfl, Wsb.below HW.out hb, hb⟩
    · change StepOk _ _ _ _ _ _ _
      intro ρ w1 hF hW
      have HW := hidden hW
      clear hW
      have e2 : ρ 2 = .pointer (some ⟨w.heap.size, 0, none⟩) := hF 2 (by decide)
      clear hF
      unfold Does
      go_simp
      exact ⟨rfl, HW.out, Below.refl _ _⟩
    · change StepOk _ _ _ _ _ _ _
      intro ρ w1 hF hW
      have HW := hidden hW
      clear hW
      have e10 : ρ 10 = .pointer (some ⟨w.heap.size, 4, none⟩) := hF 10 (by decide)
      clear hF
      obtain ⟨⟨c0, c1, c2, c3, c4, c5, c6, c7⟩, d0, d1, d2, d3, d4, d5, d6, d7⟩ := HW.out.cells
      unfold Does
      go_simp
      exact ⟨rfl, HW.out, Below.refl _ _⟩
    · change StepOk _ _ _ _ _ _ _
      intro ρ w1 hF hW
      have HW := hidden hW
      clear hW
      have e3 : ρ 3 = .pointer (some ⟨w.heap.size + 1, 0, none⟩) := hF 3 (by decide)
      clear hF
      unfold Does
      go_simp
      exact ⟨rfl, HW.out, Below.refl _ _⟩
    · change StepOk _ _ _ _ _ _ _
      intro ρ w1 hF hW
      have HW := hidden hW
      clear hW
      have e12 : ρ 12 = .pointer (some ⟨w.heap.size + 1, 4, none⟩) := hF 12 (by decide)
      clear hF
      obtain ⟨⟨c0, c1, c2, c3, c4, c5, c6, c7⟩, d0, d1, d2, d3, d4, d5, d6, d7⟩ := HW.out.cells
      unfold Does
      go_simp
      exact ⟨rfl, HW.out, Below.refl _ _⟩
    · change StepOk _ _ _ _ _ _ _
      intro ρ w1 hF hW
      have HW := hidden hW
      clear hW
      have e11 : ρ 11 = (.agg #[.int .u64 (word (a.last) 0), .int .u64 (word (a.last) 1), .int .u64 (word (a.last) 2), .int .u64 (word (a.last) 3)]) := hF 11 (by decide)
      have e13 : ρ 13 = (.agg #[.int .u64 (word (b.last) 0), .int .u64 (word (b.last) 1), .int .u64 (word (b.last) 2), .int .u64 (word (b.last) 3)]) := hF 13 (by decide)
      clear hF
      unfold Does
      go_simp
      refine (spWith_calls _ _ _).mono ?_
      rintro e w2 ⟨rfl, hb⟩
      exact ⟨_, rfl, rfl, Wsb.below HW.out hb, hb⟩
    · change StepOk _ _ _ _ _ _ _
      intro ρ w1 hF hW
      have HW := hidden hW
      clear hW
      have e9 : ρ 9 = (.agg #[.int .u64 (word (fOr a.first b.first) 0), .int .u64 (word (fOr a.first b.first) 1), .int .u64 (word (fOr a.first b.first) 2), .int .u64 (word (fOr a.first b.first) 3)]) := hF 9 (by decide)
      have e14 : ρ 14 = (.agg #[.int .u64 (word (fOr a.last b.last) 0), .int .u64 (word (fOr a.last b.last) 1), .int .u64 (word (fOr a.last b.last) 2), .int .u64 (word (fOr a.last b.last) 3)]) := hF 14 (by decide)
      clear hF
      unfold Does
      go_simp
      exact ⟨rfl, HW.out, Below.refl _ _⟩
/-- what stays while or goes on -/
structure Wpo (w : World) (a b : Prt) (wr : World) : Prop where
  one : PrtAt wr w.heap.size a
  two : PrtAt wr (w.heap.size + 1) b
  out : wr.heap[w.heap.size + 2]? = some (.cells #[.int .u64 0, .int .u64 0, .int .u64 0, .int .u64 0, .int .u64 0, .int .u64 0, .int .u64 0, .int .u64 0, .bool false] 72 (0, 0))
  frame : Below w.heap.size w wr
theorem Wpo.below {w wr w' : World} {a b : Prt} (h : Wpo w a b wr) (hb : Below wr.heap.size wr w') : Wpo w a b w' := ⟨h.one.below hb, h.two.below hb, (hb.block _ (Array.getElem?_eq_some_iff.1 h.out).1).trans h.out, below_then h.frame h.frame.size hb⟩
theorem Wpo.cells {w wr : World} {a b : Prt} (h : Wpo w a b wr) : PrtCells wr w.heap.size a ∧ PrtCells wr (w.heap.size + 1) b := ⟨h.one.cells, h.two.cells⟩
theorem Wpo.start (w : World) (a b : Prt) : Wpo w a b (((w.alloc (.cells #[.int .u64 (word (a.first) 0), .int .u64 (word (a.first) 1), .int .u64 (word (a.first) 2), .int .u64 (word (a.first) 3), .int .u64 (word (a.last) 0), .int .u64 (word (a.last) 1), .int .u64 (word (a.last) 2), .int .u64 (word (a.last) 3), .bool a.free] 72)).alloc (.cells #[.int .u64 (word (b.first) 0), .int .u64 (word (b.first) 1), .int .u64 (word (b.first) 2), .int .u64 (word (b.first) 3), .int .u64 (word (b.last) 0), .int .u64 (word (b.last) 1), .int .u64 (word (b.last) 2), .int .u64 (word (b.last) 3), .bool b.free] 72)).alloc (.cells #[.int .u64 0, .int .u64 0, .int .u64 0, .int .u64 0, .int .u64 0, .int .u64 0, .int .u64 0, .int .u64 0, .bool false] 72)) := by
  have h1 : PrtAt (w.alloc (.cells #[.int .u64 (word (a.first) 0), .int .u64 (word (a.first) 1), .int .u64 (word (a.first) 2), .int .u64 (word (a.first) 3), .int .u64 (word (a.last) 0), .int .u64 (word (a.last) 1), .int .u64 (word (a.last) 2), .int .u64 (word (a.last) 3), .bool a.free] 72)) w.heap.size a := heap_alloc_new w _
  have b1 := (Below.refl w.heap.size w).alloc (Nat.le_refl _) (.cells #[.int .u64 (word (a.first) 0), .int .u64 (word (a.first) 1), .int .u64 (word (a.first) 2), .int .u64 (word (a.first) 3), .int .u64 (word (a.last) 0), .int .u64 (word (a.last) 1), .int .u64 (word (a.last) 2), .int .u64 (word (a.last) 3), .bool a.free] 72)
  have h2 : PrtAt ((w.alloc (.cells #[.int .u64 (word (a.first) 0), .int .u64 (word (a.first) 1), .int .u64 (word (a.first) 2), .int .u64 (word (a.first) 3), .int .u64 (word (a.last) 0), .int .u64 (word (a.last) 1), .int .u64 (word (a.last) 2), .int .u64 (word (a.last) 3), .bool a.free] 72)).alloc (.cells #[.int .u64 (word (b.first) 0), .int .u64 (word (b.first) 1), .int .u64 (word (b.first) 2), .int .u64 (word (b.first) 3), .int .u64 (word (b.last) 0), .int .u64 (word (b.last) 1), .int .u64 (word (b.last) 2), .int .u64 (word (b.last) 3), .bool b.free] 72)) (w.heap.size + 1) b := heap_alloc2_new w _ _
  have h3 := heap_alloc_new ((w.alloc (.cells #[.int .u64 (word (a.first) 0), .int .u64 (word (a.first) 1), .int .u64 (word (a.first) 2), .int .u64 (word (a.first) 3), .int .u64 (word (a.last) 0), .int .u64 (word (a.last) 1), .int .u64 (word (a.last) 2), .int .u64 (word (a.last) 3), .bool a.free] 72)).alloc (.cells #[.int .u64 (word (b.first) 0), .int .u64 (word (b.first) 1), .int .u64 (word (b.first) 2), .int .u64 (word (b.first) 3), .int .u64 (word (b.last) 0), .int .u64 (word (b.last) 1), .int .u64 (word (b.last) 2), .int .u64 (word (b.last) 3), .bool b.free] 72)) (.cells #[.int .u64 0, .int .u64 0, .int .u64 0, .int .u64 0, .int .u64 0, .int .u64 0, .int .u64 0, .int .u64 0, .bool false] 72)
  have hs : ((w.alloc (.cells #[.int .u64 (word (a.first) 0), .int .u64 (word (a.first) 1), .int .u64 (word (a.first) 2), .int .u64 (word (a.first) 3), .int .u64 (word (a.last) 0), .int .u64 (word (a.last) 1), .int .u64 (word (a.last) 2), .int .u64 (word (a.last) 3), .bool a.free] 72)).alloc (.cells #[.int .u64 (word (b.first) 0), .int .u64 (word (b.first) 1), .int .u64 (word (b.first) 2), .int .u64 (word (b.first) 3), .int .u64 (word (b.last) 0), .int .u64 (word (b.last) 1), .int .u64 (word (b.last) 2), .int .u64 (word (b.last) 3), .bool b.free] 72)).heap.size = w.heap.size + 2 := by simp
  rw [hs] at h3
  exact ⟨(h1.below ((Below.refl _ _).alloc (Nat.le_refl _) _)).below ((Below.refl _ _).alloc (Nat.le_refl _) _), h2.below ((Below.refl _ _).alloc (Nat.le_refl _) _), h3, (b1.alloc (by simp) _).alloc (by simp; omega) _⟩
def Lpo (w : World) (a b : Prt) : List (Value → World → Prop) := [Is (.pointer (some ⟨w.heap.size, 0, none⟩)), Is (.agg #[.int .u64 (word (a.first) 0), .int .u64 (word (a.first) 1), .int .u64 (word (a.first) 2), .int .u64 (word (a.first) 3), .int .u64 (word (a.last) 0), .int .u64 (word (a.last) 1), .int .u64 (word (a.last) 2), .int .u64 (word (a.last) 3)]), Is (.pointer (some ⟨w.heap.size + 1, 0, none⟩)), Is (.agg #[.int .u64 (word (b.first) 0), .int .u64 (word (b.first) 1), .int .u64 (word (b.first) 2), .int .u64 (word (b.first) 3), .int .u64 (word (b.last) 0), .int .u64 (word (b.last) 1), .int .u64 (word (b.last) 2), .int .u64 (word (b.last) 3)]), Is (.agg #[.int .u64 (word (fOr a.first b.first) 0), .int .u64 (word (fOr a.first b.first) 1), .int .u64 (word (fOr a.first b.first) 2), .int .u64 (word (fOr a.first b.first) 3), .int .u64 (word (fOr a.last b.last) 0), .int .u64 (word (fOr a.last b.last) 1), .int .u64 (word (fOr a.last b.last) 2), .int .u64 (word (fOr a.last b.last) 3)]), Is (.pointer (some ⟨w.heap.size, 8, none⟩)), Is (.bool a.free), Is (.bool a.free), fun v _ => a.free = false → v = .pointer (some ⟨w.heap.size + 1, 8, none⟩), fun v _ => a.free = false → v = .bool b.free, Is (.bool (a.free || b.free)), Is (.agg #[.int .u64 (word (fOr a.first b.first) 0), .int .u64 (word (fOr a.first b.first) 1), .int .u64 (word (fOr a.first b.first) 2), .int .u64 (word (fOr a.first b.first) 3), .int .u64 (word (fOr a.last b.last) 0), .int .u64 (word (fOr a.last b.last) 1), .int .u64 (word (fOr a.last b.last) 2), .int .u64 (word (fOr a.last b.last) 3), .bool (a.free || b.free)])]
set_option maxHeartbeats 8000000 in
set_option maxRecDepth 100000 in
theorem prtOr_calls (a b : Prt) (w : World) : Calls Tryd.prog 85 #[prtV a, prtV b] w fun e w' => e = .returned (prtV ⟨fOr a.first b.first, fOr a.last b.last, a.free || b.free⟩) ∧ Below w.heap.size w w' := by
  unfold prtV
  go_enter Tryd.func85, Tryd.ntmps85
  go_wp2
  refine wp_region_stepsL 12 (typ (Lpo w a b)) (Wpo w a b) (by kernel_rfl) (by kernel_rfl) (by kernel_rfl) (by kernel_rfl) (by kernel_rfl) (by kernel_rfl) ?mono ?start ?step ?last
  case mono =>
    refine typ_mono ?_
    simp only [Lpo, List.forall_mem_cons]
    repeat' (first | exact is_mono _ | (intro p hp; cases hp; done) | exact (fun v w w' h _ => h) | refine And.intro ?_ ?_)
  case start => exact (Wpo.start w a b).below (Below.refl _ _).drew
  case last =>
    intro a1 w1 hs hv hW
    have h4 : a1.tmps.getD 4 undef = .pointer (some ⟨w.heap.size + 2, 0, none⟩) := hs.slot 4 (by kernel_rfl)
    have h23 : a1.tmps.getD 16 undef = (.agg #[.int .u64 (word (fOr a.first b.first) 0), .int .u64 (word (fOr a.first b.first) 1), .int .u64 (word (fOr a.first b.first) 2), .int .u64 (word (fOr a.first b.first) 3), .int .u64 (word (fOr a.last b.last) 0), .int .u64 (word (fOr a.last b.last) 1), .int .u64 (word (fOr a.last b.last) 2), .int .u64 (word (fOr a.last b.last) 3), .bool (a.free || b.free)]) := hv 11 16 (by decide) (by kernel_rfl)
    have hd := hs.defers
    have HW := hidden hW
    clear hs hv hW
    refine wpOp_of_list rfl rfl ?_
    refine store_row (B := w.heap.size + 2) (cs := #[.int .u64 (word (fOr a.first b.first) 0), .int .u64 (word (fOr a.first b.first) 1), .int .u64 (word (fOr a.first b.first) 2), .int .u64 (word (fOr a.first b.first) 3), .int .u64 (word (fOr a.last b.last) 0), .int .u64 (word (fOr a.last b.last) 1), .int .u64 (word (fOr a.last b.last) 2), .int .u64 (word (fOr a.last b.last) 3), .bool (a.free || b.free)]) (old := #[.int .u64 0, .int .u64 0, .int .u64 0, .int .u64 0, .int .u64 0, .int .u64 0, .int .u64 0, .int .u64 0, .bool false]) (t := 72) rfl (ty := 72) (x := .tmp 4) (y := .tmp 16) rfl h4 h23 HW.out.out 9 (by kernel_rfl) rfl rfl (by kernel_rfl) ?_
    intro w6 hw6 hg6
    have HL6 := hidden hw6
    have HF := hidden (HW.out.frame.grown hg6 (by have := HW.out.frame.size; omega) (fun j e => by simp only [Option.some.injEq] at e; omega))
    clear hw6 hg6
    go_wp2
    exact ret_prt (l := ⟨fOr a.first b.first, fOr a.last b.last, a.free || b.free⟩) Tryd.results85 h4 hd HL6.out ⟨rfl, HF.out⟩
  case step =>
    refine ⟨?_, ?_, ?_, ?_, ?_, ?_, ?_, ?_, ?_, ?_, ?_, ?_, trivial⟩
    · change StepOk _ _ _ _ _ _ _
      intro ρ w1 hF hW
      have HW := hidden hW
      clear hW
      have e2 : ρ 2 = .pointer (some ⟨w.heap.size, 0, none⟩) := hF 2 (by decide)
      clear hF
      unfold Does
      go_simp
      exact ⟨rfl, HW.out, Below.refl _ _⟩
    · change StepOk _ _ _ _ _ _ _
      intro ρ w1 hF hW
      have HW := hidden hW
      clear hW
      have e5 : ρ 5 = .pointer (some ⟨w.heap.size, 0, none⟩) := hF 5 (by decide)
      clear hF
      obtain ⟨⟨c0, c1, c2, c3, c4, c5, c6, c7, c8⟩, d0, d1, d2, d3, d4, d5, d6, d7, d8⟩ := HW.out.cells
      unfold Does
      go_simp
      exact ⟨rfl, HW.out, Below.refl _ _⟩
    · change StepOk _ _ _ _ _ _ _
      intro ρ w1 hF hW
      have HW := hidden hW
      clear hW
      have e3 : ρ 3 = .pointer (some ⟨w.heap.size + 1, 0, none⟩) := hF 3 (by decide)
      clear hF
      unfold Does
      go_simp
      exact ⟨rfl, HW.out, Below.refl _ _⟩
    · change StepOk _ _ _ _ _ _ _
      intro ρ w1 hF hW
      have HW := hidden hW
      clear hW
      have e7 : ρ 7 = .pointer (some ⟨w.heap.size + 1, 0, none⟩) := hF 7 (by decide)
      clear hF
      obtain ⟨⟨c0, c1, c2, c3, c4, c5, c6, c7, c8⟩, d0, d1, d2, d3, d4, d5, d6, d7, d8⟩ := HW.out.cells
      unfold Does
      go_simp
      exact ⟨rfl, HW.out, Below.refl _ _⟩
    · change StepOk _ _ _ _ _ _ _
      intro ρ w1 hF hW
      have HW := hidden hW
      clear hW
      have e6 : ρ 6 = .agg #[.int .u64 (word (a.first) 0), .int .u64 (word (a.first) 1), .int .u64 (word (a.first) 2), .int .u64 (word (a.first) 3), .int .u64 (word (a.last) 0), .int .u64 (word (a.last) 1), .int .u64 (word (a.last) 2), .int .u64 (word (a.last) 3)] := hF 6 (by decide)
      have e8 : ρ 8 = .agg #[.int .u64 (word (b.first) 0), .int .u64 (word (b.first) 1), .int .u64 (word (b.first) 2), .int .u64 (word (b.first) 3), .int .u64 (word (b.last) 0), .int .u64 (word (b.last) 1), .int .u64 (word (b.last) 2), .int .u64 (word (b.last) 3)] := hF 8 (by decide)
      clear hF
      unfold Does
      go_simp
      refine (beside_calls a b _).mono ?_
      rintro e w2 ⟨rfl, hb⟩
      exact ⟨_, rfl, rfl, Wpo.below HW.out hb, hb⟩
    · change StepOk _ _ _ _ _ _ _
      intro ρ w1 hF hW
      have HW := hidden hW
      clear hW
      have e2 : ρ 2 = .pointer (some ⟨w.heap.size, 0, none⟩) := hF 2 (by decide)
      clear hF
      unfold Does
      go_simp
      exact ⟨rfl, HW.out, Below.refl _ _⟩
    · change StepOk _ _ _ _ _ _ _
      intro ρ w1 hF hW
      have HW := hidden hW
      clear hW
      have e10 : ρ 10 = .pointer (some ⟨w.heap.size, 8, none⟩) := hF 10 (by decide)
      clear hF
      obtain ⟨⟨c0, c1, c2, c3, c4, c5, c6, c7, c8⟩, d0, d1, d2, d3, d4, d5, d6, d7, d8⟩ := HW.out.cells
      unfold Does
      go_simp
      exact ⟨rfl, HW.out, Below.refl _ _⟩
    · change StepOk _ _ _ _ _ _ _
      intro ρ w1 hF hW
      have HW := hidden hW
      clear hW
      have e11 : ρ 11 = .bool a.free := hF 11 (by decide)
      clear hF
      unfold Does
      go_simp
      exact ⟨rfl, HW.out, Below.refl _ _⟩
    · refine ⟨a.free, fun v w h => h, fun hgx => ?_, fun hgx w => ?_⟩
      rotate_left
      · intro hg2
        exact absurd hg2 hgx
      change StepOk _ _ _ _ _ _ _
      intro ρ w1 hF hW
      have HW := hidden hW
      clear hW
      have e3 : ρ 3 = .pointer (some ⟨w.heap.size + 1, 0, none⟩) := hF 3 (by decide)
      clear hF
      unfold Does
      go_simp
      exact ⟨fun _ => rfl, HW.out, Below.refl _ _⟩
    · refine ⟨a.free, fun v w h => h, fun hgx => ?_, fun hgx w => ?_⟩
      rotate_left
      · intro hg2
        exact absurd hg2 hgx
      change StepOk _ _ _ _ _ _ _
      intro ρ w1 hF hW
      have HW := hidden hW
      clear hW
      have hG13 := hF 13 (by decide)
      clear hF
      obtain ⟨⟨c0, c1, c2, c3, c4, c5, c6, c7, c8⟩, d0, d1, d2, d3, d4, d5, d6, d7, d8⟩ := HW.out.cells
      have e13 : ρ 13 = _ := hG13 hgx
      clear hG13
      unfold Does
      go_simp
      exact ⟨fun _ => rfl, HW.out, Below.refl _ _⟩
    · change StepOk _ _ _ _ _ _ _
      intro ρ w1 hF hW
      have HW := hidden hW
      clear hW
      have e12 : ρ 12 = .bool a.free := hF 12 (by decide)
      have hG14 := hF 14 (by decide)
      clear hF
      rcases Bool.eq_false_or_eq_true (a.free) with hx | hx
      · have ex : ρ 12 = .bool true := by rw [e12, hx]
        clear e12
        skip
        clear hG14
        unfold Does
        go_simp
        exact ⟨show Value.bool _ = Value.bool (a.free || b.free) from by rw [hx]; rfl, HW.out, Below.refl _ _⟩
      · have ex : ρ 12 = .bool false := by rw [e12, hx]
        clear e12
        have ey := hG14 hx
        clear hG14
        have ey : ρ 14 = .bool (b.free) := ey
        unfold Does
        go_simp
        exact ⟨show Value.bool _ = Value.bool (a.free || b.free) from by rw [hx]; rfl, HW.out, Below.refl _ _⟩
    · change StepOk _ _ _ _ _ _ _
      intro ρ w1 hF hW
      have HW := hidden hW
      clear hW
      have e9 : ρ 9 = .agg #[.int .u64 (word (fOr a.first b.first) 0), .int .u64 (word (fOr a.first b.first) 1), .int .u64 (word (fOr a.first b.first) 2), .int .u64 (word (fOr a.first b.first) 3), .int .u64 (word (fOr a.last b.last) 0), .int .u64 (word (fOr a.last b.last) 1), .int .u64 (word (fOr a.last b.last) 2), .int .u64 (word (fOr a.last b.last) 3)] := hF 9 (by decide)
      have e15 : ρ 15 = .bool (a.free || b.free) := hF 15 (by decide)
      clear hF
      unfold Does
      go_simp
      exact ⟨rfl, HW.out, Below.refl _ _⟩
end Go.Proofs.YtbokhofdgdcpdaaDoor

/- Contract of part.then. -/
namespace Go.Proofs.YtbokhofdgdcpdaaDoor
open Go.RowKit Go.Lib Go.Joins

/-- a struct that is stored whole in the midst of a row -/
theorem store_at {ops : Array Oper} {rest : List Oper} {o : Oper} {a : Act} {w : World} {Q : Exit → Act → World → Prop} (hgd : o.guard = none) {ty : TypeId} {x y : Operand} (ho : o.op = .store ty x y)
    {g off : Nat} {cs cur : Array Value} {t : TypeId} (hx : a.eval x = .pointer (some ⟨g, off, none⟩)) (hy : a.eval y = .agg cs) (hg : w.heap[g]? = some (.cells cur t (0, 0))) (n : Nat) (hi : (Tryd.prog.info? ty).map (·.size) = some n)
    (hcs : cs.size = n) (hroom : off + n ≤ cur.size) (h1 : cs.all (·.oneCell') = true) (h : wpList Tryd.prog ops Q rest (a.put o.dst undef) (w.setRow g (cur.toList.take off ++ cs.toList ++ cur.toList.drop (off + n)).toArray)) : wpList Tryd.prog ops Q (o :: rest) a w := by
  refine wpList_plain hgd fun K hK => ?_
  have hr := run_storeCells_at (P := Tryd.prog) g off t cs.toList 0 cur w hg (by simp; omega) (fun v hv => (Array.all_eq_true_iff_forall_mem.1 h1) v (by simpa using hv))
  have hK' := hK _ _ h
  have hl : cs.toList.length = n := by simpa using hcs
  rw [hl, Nat.add_zero] at hr
  cases hq : Tryd.prog.info? ty with
  | none => simp [hq] at hi
  | some i =>
    have hs : i.size = n := by simpa [hq] using hi
    have hst : (storeVar ty ⟨g, off, none⟩ (.agg cs)).run Tryd.prog w = .ok () (w.setRow g (cur.toList.take off ++ cs.toList ++ cur.toList.drop (off + n)).toArray) := by
      simp [storeVar, sizeOf, typeInfo, hq, Value.cells, hs, hcs, hr]
    unfold Oper.wp execOp
    simp only [ho, hx, hy, Instr.storeAt, Instr.sureAddr, Sem.run_bind, Sem.run_pure, Result.andThen_ok, hst]
    exact hK'
theorem store_prt0 {ops : Array Oper} {rest : List Oper} {o : Oper} {a : Act} {w : World} {Q : Exit → Act → World → Prop} (hgd : o.guard = none) {x y : Operand} (ho : o.op = .store 68 x y) {B : Nat} {r : Prt} {f : Nat → Bool}
    (hx : a.eval x = .pointer (some ⟨B, 0, none⟩)) (hy : a.eval y = (.agg #[.int .u64 (word (f) 0), .int .u64 (word (f) 1), .int .u64 (word (f) 2), .int .u64 (word (f) 3)])) (hR : PrtAt w B r) (h : ∀ w', PrtAt w' B ⟨f, r.last, r.free⟩ → w.grownBy w' (some B) → wpList Tryd.prog ops Q rest (a.put o.dst undef) w') : wpList Tryd.prog ops Q (o :: rest) a w :=
  store_at hgd ho hx hy hR 4 (by kernel_rfl) rfl (by simp) (by kernel_rfl) (h _ (setRow_heap w B _ _ _ _ hR) ⟨rfl, rfl, rfl, by simp, fun k _ hk => setRow_other w B k _ (by simpa using hk)⟩)
theorem store_prt4 {ops : Array Oper} {rest : List Oper} {o : Oper} {a : Act} {w : World} {Q : Exit → Act → World → Prop} (hgd : o.guard = none) {x y : Operand} (ho : o.op = .store 68 x y) {B : Nat} {r : Prt} {f : Nat → Bool}
    (hx : a.eval x = .pointer (some ⟨B, 4, none⟩)) (hy : a.eval y = (.agg #[.int .u64 (word (f) 0), .int .u64 (word (f) 1), .int .u64 (word (f) 2), .int .u64 (word (f) 3)])) (hR : PrtAt w B r) (h : ∀ w', PrtAt w' B ⟨r.first, f, r.free⟩ → w.grownBy w' (some B) → wpList Tryd.prog ops Q rest (a.put o.dst undef) w') : wpList Tryd.prog ops Q (o :: rest) a w :=
  store_at hgd ho hx hy hR 4 (by kernel_rfl) rfl (by simp) (by kernel_rfl) (h _ (setRow_heap w B _ _ _ _ hR) ⟨rfl, rfl, rfl, by simp, fun k _ hk => setRow_other w B k _ (by simpa using hk)⟩)
/-- what is stored in a block of the call's own leaves the two parts -/
theorem Wpo.other {w wr w' : World} {a b : Prt} {B : Nat} (h : Wpo w a b wr) (hB : w.heap.size + 3 ≤ B) (hg : wr.grownBy w' (some B)) : Wpo w a b w' :=
  ⟨(hg.block _ h.one.lt (by simp; omega)).trans h.one, (hg.block _ h.two.lt (by simp; omega)).trans h.two, (hg.block _ (Array.getElem?_eq_some_iff.1 h.out).1 (by simp; omega)).trans h.out, h.frame.grown hg h.frame.size (fun j e => by simp only [Option.some.injEq] at e; omega)⟩
/-- what is known of two parts, one behind the other -/
def thenP (a b : Prt) : Prt := ⟨bif a.free then fOr a.first b.first else a.first, bif b.free then fOr a.last b.last else b.last, a.free && b.free⟩
attribute [local go_sem] evalR_tmp evalR_const evalR_global evalR_func
set_option maxHeartbeats 4000000 in
set_option maxRecDepth 100000 in
theorem prtThen_calls (a b : Prt) (w : World) : Calls Tryd.prog 82 #[prtV a, prtV b] w fun e w' => e = .returned (prtV (thenP a b)) ∧ Below w.heap.size w w' := by
  rcases ha : a.free with _ | _ <;> rcases hb : b.free with _ | _
  · have HNA := hidden ha
    have HNB := hidden hb
    have hna : Hid (a.free = false) := HNA
    clear ha hb
    have HP := hidden (heap_alloc_new (((w.alloc (.cells #[.int .u64 (word (a.first) 0), .int .u64 (word (a.first) 1), .int .u64 (word (a.first) 2), .int .u64 (word (a.first) 3), .int .u64 (word (a.last) 0), .int .u64 (word (a.last) 1), .int .u64 (word (a.last) 2), .int .u64 (word (a.last) 3), .bool false] 72)).alloc (.cells #[.int .u64 (word (b.first) 0), .int .u64 (word (b.first) 1), .int .u64 (word (b.first) 2), .int .u64 (word (b.first) 3), .int .u64 (word (b.last) 0), .int .u64 (word (b.last) 1), .int .u64 (word (b.last) 2), .int .u64 (word (b.last) 3), .bool false] 72)).alloc (.cells #[.int .u64 0, .int .u64 0, .int .u64 0, .int .u64 0, .int .u64 0, .int .u64 0, .int .u64 0, .int .u64 0, .bool false] 72)) (.cells #[.int .u64 0, .int .u64 0, .int .u64 0, .int .u64 0, .int .u64 0, .int .u64 0, .int .u64 0, .int .u64 0, .bool false] 72))
    have HS := hidden (Wpo.start w a b)
    rw [HNA.out, HNB.out] at HS
    rw [show (((w.alloc (.cells #[.int .u64 (word (a.first) 0), .int .u64 (word (a.first) 1), .int .u64 (word (a.first) 2), .int .u64 (word (a.first) 3), .int .u64 (word (a.last) 0), .int .u64 (word (a.last) 1), .int .u64 (word (a.last) 2), .int .u64 (word (a.last) 3), .bool false] 72)).alloc (.cells #[.int .u64 (word (b.first) 0), .int .u64 (word (b.first) 1), .int .u64 (word (b.first) 2), .int .u64 (word (b.first) 3), .int .u64 (word (b.last) 0), .int .u64 (word (b.last) 1), .int .u64 (word (b.last) 2), .int .u64 (word (b.last) 3), .bool false] 72)).alloc (.cells #[.int .u64 0, .int .u64 0, .int .u64 0, .int .u64 0, .int .u64 0, .int .u64 0, .int .u64 0, .int .u64 0, .bool false] 72)).heap.size = w.heap.size + 3 by simp] at HP
    have HS2 := hidden (HS.out.below ((Below.refl _ _).alloc (Nat.le_refl _) (.cells #[.int .u64 0, .int .u64 0, .int .u64 0, .int .u64 0, .int .u64 0, .int .u64 0, .int .u64 0, .int .u64 0, .bool false] 72)))
    clear HS
    rw [show prtV a = .agg #[.int .u64 (word (a.first) 0), .int .u64 (word (a.first) 1), .int .u64 (word (a.first) 2), .int .u64 (word (a.first) 3), .int .u64 (word (a.last) 0), .int .u64 (word (a.last) 1), .int .u64 (word (a.last) 2), .int .u64 (word (a.last) 3), .bool false] by unfold prtV; rw [HNA.out], show prtV b = .agg #[.int .u64 (word (b.first) 0), .int .u64 (word (b.first) 1), .int .u64 (word (b.first) 2), .int .u64 (word (b.first) 3), .int .u64 (word (b.last) 0), .int .u64 (word (b.last) 1), .int .u64 (word (b.last) 2), .int .u64 (word (b.last) 3), .bool false] by unfold prtV; rw [HNB.out]]
    go_enter Tryd.func82, Tryd.ntmps82
    go_wp2_with (first | (refine store_row (B := w.heap.size + 3) (cs := #[.int .u64 (word (a.first) 0), .int .u64 (word (a.first) 1), .int .u64 (word (a.first) 2), .int .u64 (word (a.first) 3), .int .u64 (word (b.last) 0), .int .u64 (word (b.last) 1), .int .u64 (word (b.last) 2), .int .u64 (word (b.last) 3), .bool false]) (old := #[.int .u64 0, .int .u64 0, .int .u64 0, .int .u64 0, .int .u64 0, .int .u64 0, .int .u64 0, .int .u64 0, .bool false]) (t := 72) rfl (ty := 72) (x := .tmp 5) (y := .tmp 19) rfl rfl rfl HP.out 9 (by kernel_rfl) rfl rfl (by kernel_rfl) ?_; intro w5 hr5 hg5; have hw5 := HS2.out.other (by omega) hg5; have hr5 : PrtAt w5 (w.heap.size + 3) (⟨a.first, b.last, false⟩ : Prt) := hr5; have HR5 := hidden hr5; have HW5 := hidden hw5; obtain ⟨⟨c0, c1, c2, c3, c4, c5, c6, c7, c8⟩, d0, d1, d2, d3, d4, d5, d6, d7, d8⟩ := (hw5).cells; rw [HNA.out] at c8; rw [HNB.out] at d8; obtain ⟨e0, e1, e2, e3, e4, e5, e6, e7, e8⟩ := (hr5).cells; have hl0 := (hw5).one.lt; have hl1 := (hw5).two.lt; have hl3 := (hr5).lt; clear hr5 hg5 hw5) | (refine store_row (B := w.heap.size + 2) (cs := #[.int .u64 (word (a.first) 0), .int .u64 (word (a.first) 1), .int .u64 (word (a.first) 2), .int .u64 (word (a.first) 3), .int .u64 (word (b.last) 0), .int .u64 (word (b.last) 1), .int .u64 (word (b.last) 2), .int .u64 (word (b.last) 3), .bool false]) (old := #[.int .u64 0, .int .u64 0, .int .u64 0, .int .u64 0, .int .u64 0, .int .u64 0, .int .u64 0, .int .u64 0, .bool false]) (t := 72) rfl (ty := 72) (x := .tmp 4) (y := .tmp 42) rfl rfl rfl HW5.out.out 9 (by kernel_rfl) rfl rfl (by kernel_rfl) ?_; intro w9 hw9 hg9; have HL9 := hidden hw9; have HG9 := hidden hg9; clear hw9 hg9) | fail)
    exact ret_prt (l := ⟨a.first, b.last, false⟩) Tryd.results82 rfl rfl HL9.out ⟨by unfold prtV thenP; rw [HNA.out, HNB.out]; rfl, HW5.out.frame.grown HG9.out HW5.out.frame.size (fun j e => by simp only [Option.some.injEq] at e; omega)⟩
  · have HNA := hidden ha
    have HNB := hidden hb
    have hna : Hid (a.free = false) := HNA
    clear ha hb
    have HP := hidden (heap_alloc_new (((w.alloc (.cells #[.int .u64 (word (a.first) 0), .int .u64 (word (a.first) 1), .int .u64 (word (a.first) 2), .int .u64 (word (a.first) 3), .int .u64 (word (a.last) 0), .int .u64 (word (a.last) 1), .int .u64 (word (a.last) 2), .int .u64 (word (a.last) 3), .bool false] 72)).alloc (.cells #[.int .u64 (word (b.first) 0), .int .u64 (word (b.first) 1), .int .u64 (word (b.first) 2), .int .u64 (word (b.first) 3), .int .u64 (word (b.last) 0), .int .u64 (word (b.last) 1), .int .u64 (word (b.last) 2), .int .u64 (word (b.last) 3), .bool true] 72)).alloc (.cells #[.int .u64 0, .int .u64 0, .int .u64 0, .int .u64 0, .int .u64 0, .int .u64 0, .int .u64 0, .int .u64 0, .bool false] 72)) (.cells #[.int .u64 0, .int .u64 0, .int .u64 0, .int .u64 0, .int .u64 0, .int .u64 0, .int .u64 0, .int .u64 0, .bool false] 72))
    have HS := hidden (Wpo.start w a b)
    rw [HNA.out, HNB.out] at HS
    rw [show (((w.alloc (.cells #[.int .u64 (word (a.first) 0), .int .u64 (word (a.first) 1), .int .u64 (word (a.first) 2), .int .u64 (word (a.first) 3), .int .u64 (word (a.last) 0), .int .u64 (word (a.last) 1), .int .u64 (word (a.last) 2), .int .u64 (word (a.last) 3), .bool false] 72)).alloc (.cells #[.int .u64 (word (b.first) 0), .int .u64 (word (b.first) 1), .int .u64 (word (b.first) 2), .int .u64 (word (b.first) 3), .int .u64 (word (b.last) 0), .int .u64 (word (b.last) 1), .int .u64 (word (b.last) 2), .int .u64 (word (b.last) 3), .bool true] 72)).alloc (.cells #[.int .u64 0, .int .u64 0, .int .u64 0, .int .u64 0, .int .u64 0, .int .u64 0, .int .u64 0, .int .u64 0, .bool false] 72)).heap.size = w.heap.size + 3 by simp] at HP
    have HS2 := hidden (HS.out.below ((Below.refl _ _).alloc (Nat.le_refl _) (.cells #[.int .u64 0, .int .u64 0, .int .u64 0, .int .u64 0, .int .u64 0, .int .u64 0, .int .u64 0, .int .u64 0, .bool false] 72)))
    clear HS
    rw [show prtV a = .agg #[.int .u64 (word (a.first) 0), .int .u64 (word (a.first) 1), .int .u64 (word (a.first) 2), .int .u64 (word (a.first) 3), .int .u64 (word (a.last) 0), .int .u64 (word (a.last) 1), .int .u64 (word (a.last) 2), .int .u64 (word (a.last) 3), .bool false] by unfold prtV; rw [HNA.out], show prtV b = .agg #[.int .u64 (word (b.first) 0), .int .u64 (word (b.first) 1), .int .u64 (word (b.first) 2), .int .u64 (word (b.first) 3), .int .u64 (word (b.last) 0), .int .u64 (word (b.last) 1), .int .u64 (word (b.last) 2), .int .u64 (word (b.last) 3), .bool true] by unfold prtV; rw [HNB.out]]
    go_enter Tryd.func82, Tryd.ntmps82
    go_wp2_with (first | (refine store_row (B := w.heap.size + 3) (cs := #[.int .u64 (word (a.first) 0), .int .u64 (word (a.first) 1), .int .u64 (word (a.first) 2), .int .u64 (word (a.first) 3), .int .u64 (word (b.last) 0), .int .u64 (word (b.last) 1), .int .u64 (word (b.last) 2), .int .u64 (word (b.last) 3), .bool false]) (old := #[.int .u64 0, .int .u64 0, .int .u64 0, .int .u64 0, .int .u64 0, .int .u64 0, .int .u64 0, .int .u64 0, .bool false]) (t := 72) rfl (ty := 72) (x := .tmp 5) (y := .tmp 19) rfl rfl rfl HP.out 9 (by kernel_rfl) rfl rfl (by kernel_rfl) ?_; intro w5 hr5 hg5; have hw5 := HS2.out.other (by omega) hg5; have hr5 : PrtAt w5 (w.heap.size + 3) (⟨a.first, b.last, false⟩ : Prt) := hr5; have HR5 := hidden hr5; have HW5 := hidden hw5; obtain ⟨⟨c0, c1, c2, c3, c4, c5, c6, c7, c8⟩, d0, d1, d2, d3, d4, d5, d6, d7, d8⟩ := (hw5).cells; rw [HNA.out] at c8; rw [HNB.out] at d8; obtain ⟨e0, e1, e2, e3, e4, e5, e6, e7, e8⟩ := (hr5).cells; have hl0 := (hw5).one.lt; have hl1 := (hw5).two.lt; have hl3 := (hr5).lt; clear hr5 hg5 hw5) | fail)
    clear c0 c1 c2 c3 c4 c5 c6 c7 c8 d0 d1 d2 d3 d4 d5 d6 d7 d8 e0 e1 e2 e3 e4 e5 e6 e7 e8 hl0 hl1 hl3
    refine (spWith_calls a.last b.last _).mono ?_
    rintro e w6 ⟨rfl, hb6⟩
    have hw6 := HW5.out.below (hb6.mono (Nat.le_refl _))
    have hr6 := HR5.out.below hb6
    have HR6 := hidden hr6
    have HW6 := hidden hw6
    obtain ⟨⟨c0, c1, c2, c3, c4, c5, c6, c7, c8⟩, d0, d1, d2, d3, d4, d5, d6, d7, d8⟩ := (hw6).cells
    rw [HNA.out] at c8
    rw [HNB.out] at d8
    obtain ⟨e0, e1, e2, e3, e4, e5, e6, e7, e8⟩ := (hr6).cells
    have hl0 := (hw6).one.lt
    have hl1 := (hw6).two.lt
    have hl3 := (hr6).lt
    clear hb6 hw6 hr6
    dsimp only
    go_wp2_with (first | (refine store_prt4 (B := w.heap.size + 3) (r := (⟨a.first, b.last, false⟩ : Prt)) (f := fOr a.last b.last) (x := .tmp 41) (y := .tmp 39) rfl rfl rfl rfl HR6.out ?_; intro w7 hr7 hg7; have hw7 := HW6.out.other (by omega) hg7; have HR7 := hidden hr7; have HW7 := hidden hw7; obtain ⟨⟨c0, c1, c2, c3, c4, c5, c6, c7, c8⟩, d0, d1, d2, d3, d4, d5, d6, d7, d8⟩ := (hw7).cells; rw [HNA.out] at c8; rw [HNB.out] at d8; obtain ⟨e0, e1, e2, e3, e4, e5, e6, e7, e8⟩ := (hr7).cells; have hl0 := (hw7).one.lt; have hl1 := (hw7).two.lt; have hl3 := (hr7).lt; clear hr7 hg7 hw7) | (refine store_row (B := w.heap.size + 2) (cs := #[.int .u64 (word (a.first) 0), .int .u64 (word (a.first) 1), .int .u64 (word (a.first) 2), .int .u64 (word (a.first) 3), .int .u64 (word (fOr a.last b.last) 0), .int .u64 (word (fOr a.last b.last) 1), .int .u64 (word (fOr a.last b.last) 2), .int .u64 (word (fOr a.last b.last) 3), .bool false]) (old := #[.int .u64 0, .int .u64 0, .int .u64 0, .int .u64 0, .int .u64 0, .int .u64 0, .int .u64 0, .int .u64 0, .bool false]) (t := 72) rfl (ty := 72) (x := .tmp 4) (y := .tmp 42) rfl rfl rfl HW7.out.out 9 (by kernel_rfl) rfl rfl (by kernel_rfl) ?_; intro w9 hw9 hg9; have HL9 := hidden hw9; have HG9 := hidden hg9; clear hw9 hg9) | fail)
    exact ret_prt (l := ⟨a.first, (fOr a.last b.last), false⟩) Tryd.results82 rfl rfl HL9.out ⟨by unfold prtV thenP; rw [HNA.out, HNB.out]; rfl, HW7.out.frame.grown HG9.out HW7.out.frame.size (fun j e => by simp only [Option.some.injEq] at e; omega)⟩
  · have HNA := hidden ha
    have HNB := hidden hb
    have hna : Hid (a.free = true) := HNA
    clear ha hb
    have HP := hidden (heap_alloc_new (((w.alloc (.cells #[.int .u64 (word (a.first) 0), .int .u64 (word (a.first) 1), .int .u64 (word (a.first) 2), .int .u64 (word (a.first) 3), .int .u64 (word (a.last) 0), .int .u64 (word (a.last) 1), .int .u64 (word (a.last) 2), .int .u64 (word (a.last) 3), .bool true] 72)).alloc (.cells #[.int .u64 (word (b.first) 0), .int .u64 (word (b.first) 1), .int .u64 (word (b.first) 2), .int .u64 (word (b.first) 3), .int .u64 (word (b.last) 0), .int .u64 (word (b.last) 1), .int .u64 (word (b.last) 2), .int .u64 (word (b.last) 3), .bool false] 72)).alloc (.cells #[.int .u64 0, .int .u64 0, .int .u64 0, .int .u64 0, .int .u64 0, .int .u64 0, .int .u64 0, .int .u64 0, .bool false] 72)) (.cells #[.int .u64 0, .int .u64 0, .int .u64 0, .int .u64 0, .int .u64 0, .int .u64 0, .int .u64 0, .int .u64 0, .bool false] 72))
    have HS := hidden (Wpo.start w a b)
    rw [HNA.out, HNB.out] at HS
    rw [show (((w.alloc (.cells #[.int .u64 (word (a.first) 0), .int .u64 (word (a.first) 1), .int .u64 (word (a.first) 2), .int .u64 (word (a.first) 3), .int .u64 (word (a.last) 0), .int .u64 (word (a.last) 1), .int .u64 (word (a.last) 2), .int .u64 (word (a.last) 3), .bool true] 72)).alloc (.cells #[.int .u64 (word (b.first) 0), .int .u64 (word (b.first) 1), .int .u64 (word (b.first) 2), .int .u64 (word (b.first) 3), .int .u64 (word (b.last) 0), .int .u64 (word (b.last) 1), .int .u64 (word (b.last) 2), .int .u64 (word (b.last) 3), .bool false] 72)).alloc (.cells #[.int .u64 0, .int .u64 0, .int .u64 0, .int .u64 0, .int .u64 0, .int .u64 0, .int .u64 0, .int .u64 0, .bool false] 72)).heap.size = w.heap.size + 3 by simp] at HP
    have HS2 := hidden (HS.out.below ((Below.refl _ _).alloc (Nat.le_refl _) (.cells #[.int .u64 0, .int .u64 0, .int .u64 0, .int .u64 0, .int .u64 0, .int .u64 0, .int .u64 0, .int .u64 0, .bool false] 72)))
    clear HS
    rw [show prtV a = .agg #[.int .u64 (word (a.first) 0), .int .u64 (word (a.first) 1), .int .u64 (word (a.first) 2), .int .u64 (word (a.first) 3), .int .u64 (word (a.last) 0), .int .u64 (word (a.last) 1), .int .u64 (word (a.last) 2), .int .u64 (word (a.last) 3), .bool true] by unfold prtV; rw [HNA.out], show prtV b = .agg #[.int .u64 (word (b.first) 0), .int .u64 (word (b.first) 1), .int .u64 (word (b.first) 2), .int .u64 (word (b.first) 3), .int .u64 (word (b.last) 0), .int .u64 (word (b.last) 1), .int .u64 (word (b.last) 2), .int .u64 (word (b.last) 3), .bool false] by unfold prtV; rw [HNB.out]]
    go_enter Tryd.func82, Tryd.ntmps82
    go_wp2_with (first | (refine store_row (B := w.heap.size + 3) (cs := #[.int .u64 (word (a.first) 0), .int .u64 (word (a.first) 1), .int .u64 (word (a.first) 2), .int .u64 (word (a.first) 3), .int .u64 (word (b.last) 0), .int .u64 (word (b.last) 1), .int .u64 (word (b.last) 2), .int .u64 (word (b.last) 3), .bool false]) (old := #[.int .u64 0, .int .u64 0, .int .u64 0, .int .u64 0, .int .u64 0, .int .u64 0, .int .u64 0, .int .u64 0, .bool false]) (t := 72) rfl (ty := 72) (x := .tmp 5) (y := .tmp 19) rfl rfl rfl HP.out 9 (by kernel_rfl) rfl rfl (by kernel_rfl) ?_; intro w5 hr5 hg5; have hw5 := HS2.out.other (by omega) hg5; have hr5 : PrtAt w5 (w.heap.size + 3) (⟨a.first, b.last, false⟩ : Prt) := hr5; have HR5 := hidden hr5; have HW5 := hidden hw5; obtain ⟨⟨c0, c1, c2, c3, c4, c5, c6, c7, c8⟩, d0, d1, d2, d3, d4, d5, d6, d7, d8⟩ := (hw5).cells; rw [HNA.out] at c8; rw [HNB.out] at d8; obtain ⟨e0, e1, e2, e3, e4, e5, e6, e7, e8⟩ := (hr5).cells; have hl0 := (hw5).one.lt; have hl1 := (hw5).two.lt; have hl3 := (hr5).lt; clear hr5 hg5 hw5) | fail)
    clear c0 c1 c2 c3 c4 c5 c6 c7 c8 d0 d1 d2 d3 d4 d5 d6 d7 d8 e0 e1 e2 e3 e4 e5 e6 e7 e8 hl0 hl1 hl3
    refine (spWith_calls a.first b.first _).mono ?_
    rintro e w6 ⟨rfl, hb6⟩
    have hw6 := HW5.out.below (hb6.mono (Nat.le_refl _))
    have hr6 := HR5.out.below hb6
    have HR6 := hidden hr6
    have HW6 := hidden hw6
    obtain ⟨⟨c0, c1, c2, c3, c4, c5, c6, c7, c8⟩, d0, d1, d2, d3, d4, d5, d6, d7, d8⟩ := (hw6).cells
    rw [HNA.out] at c8
    rw [HNB.out] at d8
    obtain ⟨e0, e1, e2, e3, e4, e5, e6, e7, e8⟩ := (hr6).cells
    have hl0 := (hw6).one.lt
    have hl1 := (hw6).two.lt
    have hl3 := (hr6).lt
    clear hb6 hw6 hr6
    dsimp only
    go_wp2_with (first | (refine store_prt0 (B := w.heap.size + 3) (r := (⟨a.first, b.last, false⟩ : Prt)) (f := fOr a.first b.first) (x := .tmp 30) (y := .tmp 28) rfl rfl rfl rfl HR6.out ?_; intro w7 hr7 hg7; have hw7 := HW6.out.other (by omega) hg7; have HR7 := hidden hr7; have HW7 := hidden hw7; obtain ⟨⟨c0, c1, c2, c3, c4, c5, c6, c7, c8⟩, d0, d1, d2, d3, d4, d5, d6, d7, d8⟩ := (hw7).cells; rw [HNA.out] at c8; rw [HNB.out] at d8; obtain ⟨e0, e1, e2, e3, e4, e5, e6, e7, e8⟩ := (hr7).cells; have hl0 := (hw7).one.lt; have hl1 := (hw7).two.lt; have hl3 := (hr7).lt; clear hr7 hg7 hw7) | (refine store_row (B := w.heap.size + 2) (cs := #[.int .u64 (word (fOr a.first b.first) 0), .int .u64 (word (fOr a.first b.first) 1), .int .u64 (word (fOr a.first b.first) 2), .int .u64 (word (fOr a.first b.first) 3), .int .u64 (word (b.last) 0), .int .u64 (word (b.last) 1), .int .u64 (word (b.last) 2), .int .u64 (word (b.last) 3), .bool false]) (old := #[.int .u64 0, .int .u64 0, .int .u64 0, .int .u64 0, .int .u64 0, .int .u64 0, .int .u64 0, .int .u64 0, .bool false]) (t := 72) rfl (ty := 72) (x := .tmp 4) (y := .tmp 42) rfl rfl rfl HW7.out.out 9 (by kernel_rfl) rfl rfl (by kernel_rfl) ?_; intro w9 hw9 hg9; have HL9 := hidden hw9; have HG9 := hidden hg9; clear hw9 hg9) | fail)
    exact ret_prt (l := ⟨(fOr a.first b.first), b.last, false⟩) Tryd.results82 rfl rfl HL9.out ⟨by unfold prtV thenP; rw [HNA.out, HNB.out]; rfl, HW7.out.frame.grown HG9.out HW7.out.frame.size (fun j e => by simp only [Option.some.injEq] at e; omega)⟩
  · have HNA := hidden ha
    have HNB := hidden hb
    have hna : Hid (a.free = true) := HNA
    clear ha hb
    have HP := hidden (heap_alloc_new (((w.alloc (.cells #[.int .u64 (word (a.first) 0), .int .u64 (word (a.first) 1), .int .u64 (word (a.first) 2), .int .u64 (word (a.first) 3), .int .u64 (word (a.last) 0), .int .u64 (word (a.last) 1), .int .u64 (word (a.last) 2), .int .u64 (word (a.last) 3), .bool true] 72)).alloc (.cells #[.int .u64 (word (b.first) 0), .int .u64 (word (b.first) 1), .int .u64 (word (b.first) 2), .int .u64 (word (b.first) 3), .int .u64 (word (b.last) 0), .int .u64 (word (b.last) 1), .int .u64 (word (b.last) 2), .int .u64 (word (b.last) 3), .bool true] 72)).alloc (.cells #[.int .u64 0, .int .u64 0, .int .u64 0, .int .u64 0, .int .u64 0, .int .u64 0, .int .u64 0, .int .u64 0, .bool false] 72)) (.cells #[.int .u64 0, .int .u64 0, .int .u64 0, .int .u64 0, .int .u64 0, .int .u64 0, .int .u64 0, .int .u64 0, .bool false] 72))
    have HS := hidden (Wpo.start w a b)
    rw [HNA.out, HNB.out] at HS
    rw [show (((w.alloc (.cells #[.int .u64 (word (a.first) 0), .int .u64 (word (a.first) 1), .int .u64 (word (a.first) 2), .int .u64 (word (a.first) 3), .int .u64 (word (a.last) 0), .int .u64 (word (a.last) 1), .int .u64 (word (a.last) 2), .int .u64 (word (a.last) 3), .bool true] 72)).alloc (.cells #[.int .u64 (word (b.first) 0), .int .u64 (word (b.first) 1), .int .u64 (word (b.first) 2), .int .u64 (word (b.first) 3), .int .u64 (word (b.last) 0), .int .u64 (word (b.last) 1), .int .u64 (word (b.last) 2), .int .u64 (word (b.last) 3), .bool true] 72)).alloc (.cells #[.int .u64 0, .int .u64 0, .int .u64 0, .int .u64 0, .int .u64 0, .int .u64 0, .int .u64 0, .int .u64 0, .bool false] 72)).heap.size = w.heap.size + 3 by simp] at HP
    have HS2 := hidden (HS.out.below ((Below.refl _ _).alloc (Nat.le_refl _) (.cells #[.int .u64 0, .int .u64 0, .int .u64 0, .int .u64 0, .int .u64 0, .int .u64 0, .int .u64 0, .int .u64 0, .bool false] 72)))
    clear HS
    rw [show prtV a = .agg #[.int .u64 (word (a.first) 0), .int .u64 (word (a.first) 1), .int .u64 (word (a.first) 2), .int .u64 (word (a.first) 3), .int .u64 (word (a.last) 0), .int .u64 (word (a.last) 1), .int .u64 (word (a.last) 2), .int .u64 (word (a.last) 3), .bool true] by unfold prtV; rw [HNA.out], show prtV b = .agg #[.int .u64 (word (b.first) 0), .int .u64 (word (b.first) 1), .int .u64 (word (b.first) 2), .int .u64 (word (b.first) 3), .int .u64 (word (b.last) 0), .int .u64 (word (b.last) 1), .int .u64 (word (b.last) 2), .int .u64 (word (b.last) 3), .bool true] by unfold prtV; rw [HNB.out]]
    go_enter Tryd.func82, Tryd.ntmps82
    go_wp2_with (first | (refine store_row (B := w.heap.size + 3) (cs := #[.int .u64 (word (a.first) 0), .int .u64 (word (a.first) 1), .int .u64 (word (a.first) 2), .int .u64 (word (a.first) 3), .int .u64 (word (b.last) 0), .int .u64 (word (b.last) 1), .int .u64 (word (b.last) 2), .int .u64 (word (b.last) 3), .bool true]) (old := #[.int .u64 0, .int .u64 0, .int .u64 0, .int .u64 0, .int .u64 0, .int .u64 0, .int .u64 0, .int .u64 0, .bool false]) (t := 72) rfl (ty := 72) (x := .tmp 5) (y := .tmp 19) rfl rfl rfl HP.out 9 (by kernel_rfl) rfl rfl (by kernel_rfl) ?_; intro w5 hr5 hg5; have hw5 := HS2.out.other (by omega) hg5; have hr5 : PrtAt w5 (w.heap.size + 3) (⟨a.first, b.last, true⟩ : Prt) := hr5; have HR5 := hidden hr5; have HW5 := hidden hw5; obtain ⟨⟨c0, c1, c2, c3, c4, c5, c6, c7, c8⟩, d0, d1, d2, d3, d4, d5, d6, d7, d8⟩ := (hw5).cells; rw [HNA.out] at c8; rw [HNB.out] at d8; obtain ⟨e0, e1, e2, e3, e4, e5, e6, e7, e8⟩ := (hr5).cells; have hl0 := (hw5).one.lt; have hl1 := (hw5).two.lt; have hl3 := (hr5).lt; clear hr5 hg5 hw5) | fail)
    clear c0 c1 c2 c3 c4 c5 c6 c7 c8 d0 d1 d2 d3 d4 d5 d6 d7 d8 e0 e1 e2 e3 e4 e5 e6 e7 e8 hl0 hl1 hl3
    refine (spWith_calls a.first b.first _).mono ?_
    rintro e w6 ⟨rfl, hb6⟩
    have hw6 := HW5.out.below (hb6.mono (Nat.le_refl _))
    have hr6 := HR5.out.below hb6
    have HR6 := hidden hr6
    have HW6 := hidden hw6
    obtain ⟨⟨c0, c1, c2, c3, c4, c5, c6, c7, c8⟩, d0, d1, d2, d3, d4, d5, d6, d7, d8⟩ := (hw6).cells
    rw [HNA.out] at c8
    rw [HNB.out] at d8
    obtain ⟨e0, e1, e2, e3, e4, e5, e6, e7, e8⟩ := (hr6).cells
    have hl0 := (hw6).one.lt
    have hl1 := (hw6).two.lt
    have hl3 := (hr6).lt
    clear hb6 hw6 hr6
    dsimp only
    go_wp2_with (first | (refine store_prt0 (B := w.heap.size + 3) (r := (⟨a.first, b.last, true⟩ : Prt)) (f := fOr a.first b.first) (x := .tmp 30) (y := .tmp 28) rfl rfl rfl rfl HR6.out ?_; intro w7 hr7 hg7; have hw7 := HW6.out.other (by omega) hg7; have HR7 := hidden hr7; have HW7 := hidden hw7; obtain ⟨⟨c0, c1, c2, c3, c4, c5, c6, c7, c8⟩, d0, d1, d2, d3, d4, d5, d6, d7, d8⟩ := (hw7).cells; rw [HNA.out] at c8; rw [HNB.out] at d8; obtain ⟨e0, e1, e2, e3, e4, e5, e6, e7, e8⟩ := (hr7).cells; have hl0 := (hw7).one.lt; have hl1 := (hw7).two.lt; have hl3 := (hr7).lt; clear hr7 hg7 hw7) | fail)
    clear c0 c1 c2 c3 c4 c5 c6 c7 c8 d0 d1 d2 d3 d4 d5 d6 d7 d8 e0 e1 e2 e3 e4 e5 e6 e7 e8 hl0 hl1 hl3
    refine (spWith_calls a.last b.last _).mono ?_
    rintro e w8 ⟨rfl, hb8⟩
    have hw8 := HW7.out.below (hb8.mono (Nat.le_refl _))
    have hr8 := HR7.out.below hb8
    have HR8 := hidden hr8
    have HW8 := hidden hw8
    obtain ⟨⟨c0, c1, c2, c3, c4, c5, c6, c7, c8⟩, d0, d1, d2, d3, d4, d5, d6, d7, d8⟩ := (hw8).cells
    rw [HNA.out] at c8
    rw [HNB.out] at d8
    obtain ⟨e0, e1, e2, e3, e4, e5, e6, e7, e8⟩ := (hr8).cells
    have hl0 := (hw8).one.lt
    have hl1 := (hw8).two.lt
    have hl3 := (hr8).lt
    clear hb8 hw8 hr8
    dsimp only
    go_wp2_with (first | (refine store_prt4 (B := w.heap.size + 3) (r := (⟨(fOr a.first b.first), b.last, true⟩ : Prt)) (f := fOr a.last b.last) (x := .tmp 41) (y := .tmp 39) rfl rfl rfl rfl HR8.out ?_; intro w9 hr9 hg9; have hw9 := HW8.out.other (by omega) hg9; have HR9 := hidden hr9; have HW9 := hidden hw9; obtain ⟨⟨c0, c1, c2, c3, c4, c5, c6, c7, c8⟩, d0, d1, d2, d3, d4, d5, d6, d7, d8⟩ := (hw9).cells; rw [HNA.out] at c8; rw [HNB.out] at d8; obtain ⟨e0, e1, e2, e3, e4, e5, e6, e7, e8⟩ := (hr9).cells; have hl0 := (hw9).one.lt; have hl1 := (hw9).two.lt; have hl3 := (hr9).lt; clear hr9 hg9 hw9) | (refine store_row (B := w.heap.size + 2) (cs := #[.int .u64 (word (fOr a.first b.first) 0), .int .u64 (word (fOr a.first b.first) 1), .int .u64 (word (fOr a.first b.first) 2), .int .u64 (word (fOr a.first b.first) 3), .int .u64 (word (fOr a.last b.last) 0), .int .u64 (word (fOr a.last b.last) 1), .int .u64 (word (fOr a.last b.last) 2), .int .u64 (word (fOr a.last b.last) 3), .bool true]) (old := #[.int .u64 0, .int .u64 0, .int .u64 0, .int .u64 0, .int .u64 0, .int .u64 0, .int .u64 0, .int .u64 0, .bool false]) (t := 72) rfl (ty := 72) (x := .tmp 4) (y := .tmp 42) rfl rfl rfl HW9.out.out 9 (by kernel_rfl) rfl rfl (by kernel_rfl) ?_; intro w9 hw9 hg9; have HL9 := hidden hw9; have HG9 := hidden hg9; clear hw9 hg9) | fail)
    exact ret_prt (l := ⟨(fOr a.first b.first), (fOr a.last b.last), true⟩) Tryd.results82 rfl rfl HL9.out ⟨by unfold prtV thenP; rw [HNA.out, HNB.out]; rfl, HW9.out.frame.grown HG9.out HW9.out.frame.size (fun j e => by simp only [Option.some.injEq] at e; omega)⟩
end Go.Proofs.YtbokhofdgdcpdaaDoor

/- What is done for spots that stand one behind the other: nothing (whole), or a set that grows (Follow); contracts of chain and repeat, whatever is done. -/
namespace Go.Proofs.YtbokhofdgdcpdaaDoor
open Go.RowKit Go.Lib Go.Joins

section
variable {w w' w'' : World} {row : Option Nat}
theorem gb_trans (h : w.grownBy w' row) (k : w'.grownBy w'' row) : w.grownBy w'' row :=
  ⟨k.os.trans h.os, k.tape.trans h.tape, k.output.trans h.output, Nat.le_trans h.size k.size, fun i hi hr => (k.block i (Nat.lt_of_lt_of_le hi h.size) hr).trans (h.block i hi hr)⟩
theorem gb_below (h : Below w.heap.size w w') : w.grownBy w' row := ⟨h.os, h.tape, h.output, h.size, fun k hk _ => h.block k hk⟩
theorem gb_none (h : w.grownBy w' none) : w.grownBy w' row := ⟨h.os, h.tape, h.output, h.size, fun k hk _ => h.block k hk (by simp)⟩
theorem gb_alloc (o : Obj) : w.grownBy (w.alloc o) row := World.grownBy_alloc w o row
/-- what is done to a block of the call's own is not seen -/
theorem gb_own {B : Nat} (h : w.grownBy w' row) (k : w'.grownBy w'' (some B)) (hB : w.heap.size ≤ B) : w.grownBy w'' row :=
  ⟨k.os.trans h.os, k.tape.trans h.tape, k.output.trans h.output, Nat.le_trans h.size k.size, fun i hi hr => (k.block i (Nat.lt_of_lt_of_le hi h.size) (fun e => by simp only [Option.some.injEq] at e; omega)).trans (h.block i hi hr)⟩
end
/-- block A has this set of spots -/
def SetA (w : World) (A : Nat) (G : Nat → Bool) : Prop := w.heap[A]? = some (.cells #[.int .u64 (word (G) 0), .int .u64 (word (G) 1), .int .u64 (word (G) 2), .int .u64 (word (G) 3)] 68 (0, 0))
theorem SetA.lt {w : World} {A : Nat} {G : Nat → Bool} (h : SetA w A G) : A < w.heap.size := (Array.getElem?_eq_some_iff.1 h).1
theorem SetA.below {w w' : World} {A : Nat} {G : Nat → Bool} (h : SetA w A G) (hb : Below w.heap.size w w') : SetA w' A G := (hb.block A h.lt).trans h
theorem SetA.cells {w : World} {A : Nat} {G : Nat → Bool} (h : SetA w A G) : w.cell? ⟨A, 0, none⟩ = some (.int .u64 (word G 0)) ∧ w.cell? ⟨A, 1, none⟩ = some (.int .u64 (word G 1)) ∧ w.cell? ⟨A, 2, none⟩ = some (.int .u64 (word G 2)) ∧ w.cell? ⟨A, 3, none⟩ = some (.int .u64 (word G 3)) := by
  have h' : w.heap[A]? = some (.cells #[.int .u64 (word (G) 0), .int .u64 (word (G) 1), .int .u64 (word (G) 2), .int .u64 (word (G) 3)] 68 (0, 0)) := h
  exact ⟨cell_of_row w A 0 _ _ _ h', cell_of_row w A 1 _ _ _ h', cell_of_row w A 2 _ _ _ h', cell_of_row w A 3 _ _ _ h'⟩
set_option maxHeartbeats 2000000 in
set_option maxRecDepth 100000 in
theorem pass_calls (a b : Prt) (w : World) : Calls Tryd.prog 74 #[sptV a, sptV b] w fun e w' => e = .returned (.tuple #[]) ∧ Below w.heap.size w w' := by
  unfold sptV
  go_enter Tryd.func74, Tryd.ntmps74
  go_wp2
  go_end0
  exact ⟨rfl, ((Below.refl w.heap.size w).alloc (Nat.le_refl _) _).alloc (by simp) _⟩
/-- the set of Follow, behind one such call -/
def folG (i : Int) (G : Nat → Bool) (a b : Prt) : Nat → Bool := bif hasS a.last i then fOr G b.first else G
set_option maxHeartbeats 4000000 in
set_option maxRecDepth 100000 in
theorem fol_calls {w : World} {A iB : Nat} {i : Int} {G : Nat → Bool} (a b : Prt) (hi : Boxed w iB 3 (.int .i64 i)) (hA : SetA w A G) :
    Calls Tryd.prog 52 #[sptV a, sptV b, .pointer (some ⟨iB, 0, none⟩), .pointer (some ⟨A, 0, none⟩)] w fun e w' => e = .returned (.tuple #[]) ∧ SetA w' A (folG i G a b) ∧ w.grownBy w' (some A) := by
  have hli := hi.lt
  have hci := hi.cell
  have hb0 := ((Below.refl w.heap.size w).alloc (Nat.le_refl _) (.cells #[.int .u64 (word (a.first) 0), .int .u64 (word (a.first) 1), .int .u64 (word (a.first) 2), .int .u64 (word (a.first) 3), .int .u64 (word (a.last) 0), .int .u64 (word (a.last) 1), .int .u64 (word (a.last) 2), .int .u64 (word (a.last) 3)] 70)).alloc (by simp) (.cells #[.int .u64 (word (b.first) 0), .int .u64 (word (b.first) 1), .int .u64 (word (b.first) 2), .int .u64 (word (b.first) 3), .int .u64 (word (b.last) 0), .int .u64 (word (b.last) 1), .int .u64 (word (b.last) 2), .int .u64 (word (b.last) 3)] 70)
  have HA0 := hidden (hA.below hb0)
  have HB0 := hidden hb0
  have HS0 := hidden (show SptAt ((w.alloc (.cells #[.int .u64 (word (a.first) 0), .int .u64 (word (a.first) 1), .int .u64 (word (a.first) 2), .int .u64 (word (a.first) 3), .int .u64 (word (a.last) 0), .int .u64 (word (a.last) 1), .int .u64 (word (a.last) 2), .int .u64 (word (a.last) 3)] 70)).alloc (.cells #[.int .u64 (word (b.first) 0), .int .u64 (word (b.first) 1), .int .u64 (word (b.first) 2), .int .u64 (word (b.first) 3), .int .u64 (word (b.last) 0), .int .u64 (word (b.last) 1), .int .u64 (word (b.last) 2), .int .u64 (word (b.last) 3)] 70)) (w.heap.size + 1) b from heap_alloc2_new w _ _)
  have HH := hidden (fun w => spHas_calls a.last i w)
  have hlA := hA.lt
  clear hi hA hb0
  unfold sptV
  rcases hh : hasS a.last i with _ | _
  · have HG := hidden (show folG i G a b = G by unfold folG; rw [hh]; rfl)
    rw [hh] at HH
    clear hh
    go_enter Tryd.func52, Tryd.ntmps52
    go_wp2_with fail
    refine (HH.out _).mono ?_
    rintro e w1 ⟨rfl, hb1⟩
    have HA1 := hidden (HA0.out.below hb1)
    have HB1 := hidden (below_then HB0.out HB0.out.size hb1)
    clear hb1
    go_wp2
    go_end0
    exact ⟨rfl, by rw [HG.out]; exact HA1.out, gb_below HB1.out⟩
  · have HG := hidden (show folG i G a b = fOr G b.first by unfold folG; rw [hh]; rfl)
    rw [hh] at HH
    clear hh
    go_enter Tryd.func52, Tryd.ntmps52
    go_wp2_with fail
    refine (HH.out _).mono ?_
    rintro e w1 ⟨rfl, hb1⟩
    have HA1 := hidden (HA0.out.below hb1)
    have HB1 := hidden (below_then HB0.out HB0.out.size hb1)
    have hs1 := HS0.out.below hb1
    have hl1 := hs1.lt
    obtain ⟨d0, d1, d2, d3, d4, d5, d6, d7⟩ := hs1.cells
    obtain ⟨c0, c1, c2, c3⟩ := HA1.out.cells
    have hlA1 := HA1.out.lt
    clear hb1 hs1
    go_wp2_with fail
    refine (spWith_calls G b.first _).mono ?_
    rintro e w2 ⟨rfl, hb2⟩
    have HA2 := hidden (show w2.heap[A]? = some (.cells #[.int .u64 (word (G) 0), .int .u64 (word (G) 1), .int .u64 (word (G) 2), .int .u64 (word (G) 3)] 68 (0, 0)) from HA1.out.below hb2)
    have HB2 := hidden (below_then HB1.out HB1.out.size hb2)
    clear hb2 c0 c1 c2 c3 d0 d1 d2 d3 d4 d5 d6 d7
    dsimp only
    go_wp2_with (refine store_row (B := A) (cs := #[.int .u64 (word (fOr G b.first) 0), .int .u64 (word (fOr G b.first) 1), .int .u64 (word (fOr G b.first) 2), .int .u64 (word (fOr G b.first) 3)]) (old := #[.int .u64 (word (G) 0), .int .u64 (word (G) 1), .int .u64 (word (G) 2), .int .u64 (word (G) 3)]) (t := 68) rfl (ty := 68) (x := .tmp 3) (y := .tmp 13) rfl rfl rfl HA2.out 4 (by kernel_rfl) rfl rfl (by kernel_rfl) ?_; intro w6 hw6 hg6; have HL6 := hidden hw6; have HF := hidden (gb_trans (gb_below HB2.out) hg6); clear hw6 hg6)
    go_end0
    exact ⟨rfl, by rw [HG.out]; exact HL6.out, HF.out⟩
/-- what stays while chain goes on -/
structure Wch (w : World) (a b : Prt) (row : Option Nat) (wr : World) : Prop where
  one : PrtAt wr w.heap.size a
  two : PrtAt wr (w.heap.size + 1) b
  out : wr.heap[w.heap.size + 2]? = some (.cells #[.int .u64 0, .int .u64 0, .int .u64 0, .int .u64 0, .int .u64 0, .int .u64 0, .int .u64 0, .int .u64 0, .bool false] 72 (0, 0))
  frame : w.grownBy wr row
theorem Wch.below {w wr w' : World} {a b : Prt} {row : Option Nat} (h : Wch w a b row wr) (hb : Below wr.heap.size wr w') : Wch w a b row w' := ⟨h.one.below hb, h.two.below hb, (hb.block _ (Array.getElem?_eq_some_iff.1 h.out).1).trans h.out, gb_trans h.frame (gb_below hb)⟩
theorem Wch.meet {w wr w' : World} {a b : Prt} {row : Option Nat} (h : Wch w a b row wr) (hr : ∀ j, row = some j → j < w.heap.size) (hg : wr.grownBy w' row) : Wch w a b row w' :=
  ⟨(hg.block _ h.one.lt (fun e => by have := hr _ e.symm; omega)).trans h.one, (hg.block _ h.two.lt (fun e => by have := hr _ e.symm; omega)).trans h.two, (hg.block _ (Array.getElem?_eq_some_iff.1 h.out).1 (fun e => by have := hr _ e.symm; omega)).trans h.out, gb_trans h.frame hg⟩
attribute [local go_sem] evalR_tmp evalR_const evalR_global evalR_func
set_option maxHeartbeats 4000000 in
set_option maxRecDepth 100000 in
theorem chain_calls {w : World} {mB : Nat} {f : FuncId} {c : Array Value} {row : Option Nat} {J : List (Prt × Prt) → World → Prop} {D : List (Prt × Prt)} (a b : Prt)
    (e1 : ∀ args w, (callFunc f args).run Tryd.prog w = .ok (.enter f args) w) (hm : Boxed w mB 79 (.func (.func f) #[] c)) (hr : ∀ j, row = some j → j < w.heap.size)
    (hJ : J D w) (hJb : ∀ D w1 w2, J D w1 → Below w1.heap.size w1 w2 → J D w2) (hJo : ∀ D w1 w2 B, J D w1 → w.heap.size ≤ B → w1.grownBy w2 (some B) → J D w2)
    (HM : ∀ D w1 (a b : Prt), J D w1 → Calls Tryd.prog f (#[sptV a, sptV b] ++ c) w1 fun e w2 => e = .returned (.tuple #[]) ∧ J (D ++ [(a, b)]) w2 ∧ w1.grownBy w2 row) :
    Calls Tryd.prog 81 #[prtV a, prtV b, .pointer (some ⟨mB, 0, none⟩)] w fun e w' => e = .returned (prtV (thenP a b)) ∧ J (D ++ [(a, b)]) w' ∧ w.grownBy w' row := by
  have hlm := hm.lt
  have hcm := hm.cell
  have hst := Wpo.start w a b
  have hc3 := (hst.frame.cell (p := ⟨mB, 0, none⟩) hlm).trans hcm
  have HJ0 := hidden (hJb _ _ _ (hJb _ _ _ (hJb _ _ _ hJ ((Below.refl w.heap.size w).alloc (Nat.le_refl _) (.cells #[.int .u64 (word (a.first) 0), .int .u64 (word (a.first) 1), .int .u64 (word (a.first) 2), .int .u64 (word (a.first) 3), .int .u64 (word (a.last) 0), .int .u64 (word (a.last) 1), .int .u64 (word (a.last) 2), .int .u64 (word (a.last) 3), .bool a.free] 72))) ((Below.refl _ _).alloc (Nat.le_refl _) (.cells #[.int .u64 (word (b.first) 0), .int .u64 (word (b.first) 1), .int .u64 (word (b.first) 2), .int .u64 (word (b.first) 3), .int .u64 (word (b.last) 0), .int .u64 (word (b.last) 1), .int .u64 (word (b.last) 2), .int .u64 (word (b.last) 3), .bool b.free] 72))) ((Below.refl _ _).alloc (Nat.le_refl _) (.cells #[.int .u64 0, .int .u64 0, .int .u64 0, .int .u64 0, .int .u64 0, .int .u64 0, .int .u64 0, .int .u64 0, .bool false] 72)))
  have HW0 := hidden (Wch.mk (row := row) hst.one hst.two hst.out (gb_below hst.frame))
  have HR := hidden hr
  have HM := hidden HM
  have HJB := hidden hJb
  have HJO := hidden hJo
  obtain ⟨T, hT⟩ : ∃ T, T = thenP a b := ⟨_, rfl⟩
  have HT := hidden (fun w => prtThen_calls a b w)
  rw [← hT] at HT ⊢
  clear hst hm hr hJ hJb hJo hT
  unfold prtV at HT ⊢
  go_enter Tryd.func81, Tryd.ntmps81
  go_wp2_with fail
  refine (HM.out D _ a b HJ0.out).mono ?_
  rintro e w1 ⟨rfl, hj1, hg1⟩
  have HJ1 := hidden hj1
  have HW1 := hidden (HW0.out.meet HR.out hg1)
  obtain ⟨c0, c1, c2, c3, c4, c5, c6, c7, c8⟩ := HW1.out.one.cells
  obtain ⟨d0, d1, d2, d3, d4, d5, d6, d7, d8⟩ := HW1.out.two.cells
  have hl0 := HW1.out.one.lt
  have hl1 := HW1.out.two.lt
  clear hj1 hg1
  go_wp2_with fail
  refine (HT.out _).mono ?_
  rintro e w2 ⟨rfl, hb2⟩
  have HJ2 := hidden (HJB.out _ _ _ HJ1.out hb2)
  have HW2 := hidden (HW1.out.below hb2)
  clear hb2 c0 c1 c2 c3 c4 c5 c6 c7 c8 d0 d1 d2 d3 d4 d5 d6 d7 d8
  dsimp only
  go_wp2_with (refine store_row (B := w.heap.size + 2) (cs := #[.int .u64 (word (T.first) 0), .int .u64 (word (T.first) 1), .int .u64 (word (T.first) 2), .int .u64 (word (T.first) 3), .int .u64 (word (T.last) 0), .int .u64 (word (T.last) 1), .int .u64 (word (T.last) 2), .int .u64 (word (T.last) 3), .bool T.free]) (old := #[.int .u64 0, .int .u64 0, .int .u64 0, .int .u64 0, .int .u64 0, .int .u64 0, .int .u64 0, .int .u64 0, .bool false]) (t := 72) rfl (ty := 72) (x := .tmp 5) (y := .tmp 14) rfl rfl rfl HW2.out.out 9 (by kernel_rfl) rfl rfl (by kernel_rfl) ?_; intro w6 hw6 hg6; have HL6 := hidden hw6; have HJ6 := hidden (HJO.out _ _ _ _ HJ2.out (by omega) hg6); have HF := hidden (gb_own HW2.out.frame hg6 (by omega)); clear hw6 hg6)
  exact ret_prt (l := T) Tryd.results81 rfl rfl HL6.out ⟨rfl, HJ6.out, HF.out⟩
/-- what stays while repeat goes on -/
structure Wre (w : World) (a : Prt) (row : Option Nat) (wr : World) : Prop where
  one : PrtAt wr w.heap.size a
  out : wr.heap[w.heap.size + 1]? = some (.cells #[.int .u64 0, .int .u64 0, .int .u64 0, .int .u64 0, .int .u64 0, .int .u64 0, .int .u64 0, .int .u64 0, .bool false] 72 (0, 0))
  frame : w.grownBy wr row
theorem Wre.meet {w wr w' : World} {a : Prt} {row : Option Nat} (h : Wre w a row wr) (hr : ∀ j, row = some j → j < w.heap.size) (hg : wr.grownBy w' row) : Wre w a row w' :=
  ⟨(hg.block _ h.one.lt (fun e => by have := hr _ e.symm; omega)).trans h.one, (hg.block _ (Array.getElem?_eq_some_iff.1 h.out).1 (fun e => by have := hr _ e.symm; omega)).trans h.out, gb_trans h.frame hg⟩
set_option maxHeartbeats 4000000 in
set_option maxRecDepth 100000 in
theorem repeat_calls {w : World} {mB : Nat} {f : FuncId} {c : Array Value} {row : Option Nat} {J : List (Prt × Prt) → World → Prop} {D : List (Prt × Prt)} (a : Prt)
    (e1 : ∀ args w, (callFunc f args).run Tryd.prog w = .ok (.enter f args) w) (hm : Boxed w mB 79 (.func (.func f) #[] c)) (hr : ∀ j, row = some j → j < w.heap.size)
    (hJ : J D w) (hJb : ∀ D w1 w2, J D w1 → Below w1.heap.size w1 w2 → J D w2) (hJo : ∀ D w1 w2 B, J D w1 → w.heap.size ≤ B → w1.grownBy w2 (some B) → J D w2)
    (HM : ∀ D w1 (a b : Prt), J D w1 → Calls Tryd.prog f (#[sptV a, sptV b] ++ c) w1 fun e w2 => e = .returned (.tuple #[]) ∧ J (D ++ [(a, b)]) w2 ∧ w1.grownBy w2 row) :
    Calls Tryd.prog 83 #[prtV a, .pointer (some ⟨mB, 0, none⟩)] w fun e w' => e = .returned (prtV a) ∧ J (D ++ [(a, a)]) w' ∧ w.grownBy w' row := by
  have hlm := hm.lt
  have hcm := hm.cell
  have HJ0 := hidden (hJb _ _ _ (hJb _ _ _ hJ ((Below.refl w.heap.size w).alloc (Nat.le_refl _) (.cells #[.int .u64 (word (a.first) 0), .int .u64 (word (a.first) 1), .int .u64 (word (a.first) 2), .int .u64 (word (a.first) 3), .int .u64 (word (a.last) 0), .int .u64 (word (a.last) 1), .int .u64 (word (a.last) 2), .int .u64 (word (a.last) 3), .bool a.free] 72))) ((Below.refl _ _).alloc (Nat.le_refl _) (.cells #[.int .u64 0, .int .u64 0, .int .u64 0, .int .u64 0, .int .u64 0, .int .u64 0, .int .u64 0, .int .u64 0, .bool false] 72)))
  have HW0 := hidden (Wre.mk (w := w) (a := a) (row := row) (heap_alloc2_old w (.cells #[.int .u64 (word (a.first) 0), .int .u64 (word (a.first) 1), .int .u64 (word (a.first) 2), .int .u64 (word (a.first) 3), .int .u64 (word (a.last) 0), .int .u64 (word (a.last) 1), .int .u64 (word (a.last) 2), .int .u64 (word (a.last) 3), .bool a.free] 72) (.cells #[.int .u64 0, .int .u64 0, .int .u64 0, .int .u64 0, .int .u64 0, .int .u64 0, .int .u64 0, .int .u64 0, .bool false] 72)) (heap_alloc2_new w _ _) (gb_trans (gb_alloc _) (gb_alloc _)))
  have HR := hidden hr
  have HM := hidden HM
  have HJO := hidden hJo
  have hc3 := (((Below.refl w.heap.size w).alloc (Nat.le_refl _) (.cells #[.int .u64 (word (a.first) 0), .int .u64 (word (a.first) 1), .int .u64 (word (a.first) 2), .int .u64 (word (a.first) 3), .int .u64 (word (a.last) 0), .int .u64 (word (a.last) 1), .int .u64 (word (a.last) 2), .int .u64 (word (a.last) 3), .bool a.free] 72)).alloc (by simp) (.cells #[.int .u64 0, .int .u64 0, .int .u64 0, .int .u64 0, .int .u64 0, .int .u64 0, .int .u64 0, .int .u64 0, .bool false] 72)).cell (p := ⟨mB, 0, none⟩) hlm |>.trans hcm
  clear hm hr hJ hJb hJo
  unfold prtV
  go_enter Tryd.func83, Tryd.ntmps83
  go_wp2_with fail
  refine (HM.out D _ a a HJ0.out).mono ?_
  rintro e w1 ⟨rfl, hj1, hg1⟩
  have HJ1 := hidden hj1
  have HW1 := hidden (HW0.out.meet HR.out hg1)
  obtain ⟨c0, c1, c2, c3, c4, c5, c6, c7, c8⟩ := HW1.out.one.cells
  have hl0 := HW1.out.one.lt
  clear hj1 hg1
  go_wp2_with (refine store_row (B := w.heap.size + 1) (cs := #[.int .u64 (word (a.first) 0), .int .u64 (word (a.first) 1), .int .u64 (word (a.first) 2), .int .u64 (word (a.first) 3), .int .u64 (word (a.last) 0), .int .u64 (word (a.last) 1), .int .u64 (word (a.last) 2), .int .u64 (word (a.last) 3), .bool a.free]) (old := #[.int .u64 0, .int .u64 0, .int .u64 0, .int .u64 0, .int .u64 0, .int .u64 0, .int .u64 0, .int .u64 0, .bool false]) (t := 72) rfl (ty := 72) (x := .tmp 3) (y := .tmp 10) rfl rfl rfl HW1.out.out 9 (by kernel_rfl) rfl rfl (by kernel_rfl) ?_; intro w6 hw6 hg6; have HL6 := hidden hw6; have HJ6 := hidden (HJO.out _ _ _ _ HJ1.out (by omega) hg6); have HF := hidden (gb_own HW1.out.frame hg6 (by omega)); clear hw6 hg6)
  exact ret_prt (l := a) Tryd.results83 rfl rfl HL6.out ⟨rfl, HJ6.out, HF.out⟩
end Go.Proofs.YtbokhofdgdcpdaaDoor
