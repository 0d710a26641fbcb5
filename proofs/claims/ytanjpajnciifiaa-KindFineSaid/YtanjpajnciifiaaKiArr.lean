/- Arrays of 256 one-cell elements, by what stands at each place: a block, its cells, a store, the whole as a value. -/
import Derived.Test.YtanjpajnciifiaaBase
import Derived.Laws.Tables
import Derived.Laws.Rows
namespace Go.Proofs.Ytanjpajnciifiaa
open Go.RowKit

/-- 256 cells, by their places -/
def cellsN (v : Nat → Value) : Array Value := ((List.range 256).map v).toArray
theorem cellsN_size (v : Nat → Value) : (cellsN v).size = 256 := by simp [cellsN]
theorem cellsN_get (v : Nat → Value) {j : Nat} (h : j < 256) : (cellsN v)[j]? = some (v j) := by
  simp [cellsN, h]
theorem cellsN_congr {v u : Nat → Value} (h : ∀ j, j < 256 → v j = u j) : cellsN v = cellsN u := by
  unfold cellsN
  congr 1
  exact List.map_congr_left fun j hj => h j (by simpa using hj)
/-- v with x at place i -/
def putN (v : Nat → Value) (i : Nat) (x : Value) (j : Nat) : Value := if j = i then x else v j
theorem cellsN_set (v : Nat → Value) (i : Nat) (x : Value) : (cellsN v).setIfInBounds i x = cellsN (putN v i x) := by
  apply Array.ext
  · simp [cellsN]
  · intro j h1 h2
    have h3 : j < 256 := by simpa [cellsN] using h2
    simp only [cellsN, putN, List.setIfInBounds_toArray, List.getElem_toArray, List.getElem_set, List.getElem_map, List.getElem_range]
    by_cases e : i = j
    · subst e; simp
    · rw [if_neg e, if_neg (fun h => e h.symm)]
theorem cellsN_zero (x : Value) : Array.replicate 256 x = cellsN fun _ => x := by
  apply Array.ext
  · simp [cellsN]
  · intro j h1 h2
    simp [cellsN]
theorem cellsN_one (v : Nat → Value) (h : ∀ j, (v j).oneCell' = true) : (cellsN v).all (·.oneCell') = true := by
  simp [cellsN, h]

/-- block B holds an array of 256 -/
def ArrAt (w : World) (B : Nat) (t : TypeId) (v : Nat → Value) : Prop := w.heap[B]? = some (.cells (cellsN v) t (0, 0))
theorem ArrAt.lt {w : World} {B : Nat} {t : TypeId} {v : Nat → Value} (h : ArrAt w B t v) : B < w.heap.size := by
  rcases Nat.lt_or_ge B w.heap.size with hlt | hge
  · exact hlt
  · unfold ArrAt at h
    rw [Array.getElem?_eq_none hge] at h
    cases h
theorem ArrAt.cell {w : World} {B : Nat} {t : TypeId} {v : Nat → Value} (h : ArrAt w B t v) {j : Nat} (hj : j < 256) : w.cell? ⟨B, j, none⟩ = some (v j) :=
  (cell_of_row w B j _ _ _ h).trans (cellsN_get v hj)
theorem ArrAt.frozen {w : World} {B : Nat} {t : TypeId} {v : Nat → Value} (h : ArrAt w B t v) (j : Nat) : w.frozen? ⟨B, j, none⟩ = false :=
  frozen_of_row w B j _ _ h
theorem ArrAt.below {w w' : World} {B : Nat} {t : TypeId} {v : Nat → Value} (h : ArrAt w B t v) (hb : Below w.heap.size w w') : ArrAt w' B t v :=
  (hb.block B h.lt).trans h
theorem ArrAt.under {w w' : World} {B n : Nat} {t : TypeId} {v : Nat → Value} (h : ArrAt w B t v) (hb : Below n w w') (hn : B < n) : ArrAt w' B t v :=
  (hb.block B hn).trans h
theorem ArrAt.alloc {w : World} {B : Nat} {t : TypeId} {v : Nat → Value} (h : ArrAt w B t v) (o : Obj) : ArrAt (w.alloc o) B t v := (heap_alloc_old w o h.lt).trans h
theorem ArrAt.new (w : World) (t : TypeId) (v : Nat → Value) : ArrAt (w.alloc (.cells (cellsN v) t)) w.heap.size t v := heap_alloc_new w _
theorem ArrAt.newAt {w : World} {t : TypeId} {v : Nat → Value} {B : Nat} (h : w.heap.size = B) : ArrAt (w.alloc (.cells (cellsN v) t)) B t v := by
  subst h; exact ArrAt.new w t v
theorem ArrAt.stored {w : World} {B : Nat} {t : TypeId} {v : Nat → Value} (h : ArrAt w B t v) (i : Nat) (x : Value) : ArrAt (w.setCell ⟨B, i, none⟩ x) B t (putN v i x) := by
  unfold ArrAt
  rw [heap_setCell_same w B i _ t x h, cellsN_set]
theorem ArrAt.other {w : World} {B b i : Nat} {t : TypeId} {v : Nat → Value} (h : ArrAt w B t v) (hne : B ≠ b) (x : Value) : ArrAt (w.setCell ⟨b, i, none⟩ x) B t v := by
  unfold ArrAt at h ⊢
  rw [heap_setCell_other _ _ _ _ hne, h]
theorem ArrAt.otherRow {w : World} {B b : Nat} {t : TypeId} {v : Nat → Value} (h : ArrAt w B t v) (hne : B ≠ b) (cs : Array Value) : ArrAt (w.setRow b cs) B t v :=
  (setRow_other w b B cs hne).trans h
theorem ArrAt.storedRow {w : World} {B : Nat} {t : TypeId} {v : Nat → Value} (h : ArrAt w B t v) (u : Nat → Value) : ArrAt (w.setRow B (cellsN u)) B t u :=
  setRow_heap w B _ _ t _ h
theorem ArrAt.drew {w : World} {B : Nat} {t : TypeId} {v : Nat → Value} (h : ArrAt w B t v) : ArrAt w.drew B t v := h
theorem ArrAt.congr {w : World} {B : Nat} {t : TypeId} {v u : Nat → Value} (h : ArrAt w B t v) (e : ∀ j, j < 256 → v j = u j) : ArrAt w B t u := by
  unfold ArrAt at h ⊢
  rw [h, cellsN_congr e]
/-- what stood below a number stays, over a store in a block that is not below it -/
theorem below_setRow {B : Nat} {a w : World} (h : Below B a w) {b : Nat} (hb : B ≤ b) (cs : Array Value) : Below B a (w.setRow b cs) :=
  ⟨h.os, h.tape, h.output, by simpa using h.size, fun k hk => (setRow_other w b k cs (by omega)).trans (h.block k hk)⟩

/-- numbers of a byte, and bools, by their places -/
def nV (g : Nat → Nat) (j : Nat) : Value := .int .u8 (g j : Int)
def bV (p : Nat → Bool) (j : Nat) : Value := .bool (p j)
@[reducible] def ar (g : Nat → Nat) : Value := .agg (cellsN (nV g))
theorem ar_congr {g h : Nat → Nat} (e : ∀ j, j < 256 → g j = h j) : ar g = ar h := by
  unfold ar
  rw [cellsN_congr fun j hj => show nV g j = nV h j by unfold nV; rw [e j hj]]
def putG (g : Nat → Nat) (i x : Nat) (j : Nat) : Nat := if j = i then x else g j
theorem putN_nV (g : Nat → Nat) (i x j : Nat) : putN (nV g) i (.int .u8 (x : Int)) j = nV (putG g i x) j := by
  unfold putN nV putG
  split <;> rfl
def putB (p : Nat → Bool) (i : Nat) (x : Bool) (j : Nat) : Bool := if j = i then x else p j
theorem putN_bV (p : Nat → Bool) (i : Nat) (x : Bool) (j : Nat) : putN (bV p) i (.bool x) j = bV (putB p i x) j := by
  unfold putN bV putB
  split <;> rfl

theorem size_arr : (Try.prog.info? 24).map (·.size) = some 256 := by kernel_rfl
theorem size_arrb : (Try.prog.info? 49).map (·.size) = some 256 := by kernel_rfl
/-- what a new variable of 256 bytes holds -/
theorem run_zero_arr (w : World) : (zeroValue 24).run Try.prog w = .ok (ar fun _ => 0) w := by
  unfold ar
  rw [show nV (fun _ => 0) = (fun _ => Value.int .u8 0) from rfl, ← cellsN_zero]
  kernel_rfl
theorem run_zero_arrb (w : World) : (zeroValue 49).run Try.prog w = .ok (.agg (cellsN (bV fun _ => false))) w := by
  rw [show bV (fun _ => false) = (fun _ => Value.bool false) from rfl, ← cellsN_zero]
  kernel_rfl
theorem run_build_arr (w : World) : (Instr.build 24 #[]).run Try.prog w = .ok (ar fun _ => 0) w := by
  unfold ar
  rw [show nV (fun _ => 0) = (fun _ => Value.int .u8 0) from rfl, ← cellsN_zero]
  kernel_rfl
theorem run_box_arr (g : Nat → Nat) (w : World) : (Instr.box 24 (ar g)).run Try.prog w = .ok (.pointer (some ⟨w.heap.size, 0, none⟩)) (w.alloc (.cells (cellsN (nV g)) 24)) := by
  simp [Instr.box, newVar, go_sem]

/-- a whole array is stored -/
theorem store_arr {ops : Array Oper} {rest : List Oper} {o : Oper} {a : Act} {w : World} {Q : Exit → Act → World → Prop} (hgd : o.guard = none) {x y : Operand} (ho : o.op = .store 24 x y)
    {B : Nat} {v : Nat → Value} (g : Nat → Nat) (hx : a.eval x = .pointer (some ⟨B, 0, none⟩)) (hy : a.eval y = ar g) (hA : ArrAt w B 24 v)
    (h : ∀ w', Hid (w' = w.setRow B (cellsN (nV g))) → w'.heap.size = w.heap.size → wpList Try.prog ops Q rest (a.put o.dst undef) w') : wpList Try.prog ops Q (o :: rest) a w :=
  wpList_store_row hgd 24 x y ho B _ hx hy 24 _ hA (by rw [cellsN_size]; exact size_arr) (by rw [cellsN_size, cellsN_size]) (cellsN_one _ fun _ => rfl) (h _ rfl (by simp))
/-- a whole array is loaded -/
theorem load_arr {ops : Array Oper} {rest : List Oper} {o : Oper} {a : Act} {w : World} {Q : Exit → Act → World → Prop} (hgd : o.guard = none) {x : Operand} (ho : o.op = .load 24 x)
    {B : Nat} {v : Nat → Value} (hx : a.eval x = .pointer (some ⟨B, 0, none⟩)) (hA : ArrAt w B 24 v)
    (h : wpList Try.prog ops Q rest (a.put o.dst (.agg (cellsN v))) w) : wpList Try.prog ops Q (o :: rest) a w :=
  wpList_load_row hgd 24 x ho B hx 24 _ _ _ hA Try.underlying24 rfl (by rw [cellsN_size]; exact size_arr) h
/-- a result that lies in memory -/
theorem ret_arr {fn : Func} {R : Ending → World → Prop} {a : Act} {w : World} {B p : Nat} {v : Nat → Value} {g : Nat → Nat} (h : fn.results = #[.cell p 24]) (hp : a.tmps.getD p undef = .pointer (some ⟨B, 0, none⟩))
    (hd : a.defers = []) (hS : ArrAt w B 24 v) (e : ∀ n, n < 256 → v n = nV g n) (hR : R (.returned (ar g)) w) : bodyPost Try.prog fn R .ret a w :=
  bodyPost_ret (results_cell_row h _ w B 24 _ (0, 0) _ hp (hS.congr e) Try.underlying24 rfl (by rw [cellsN_size]; exact size_arr)) hd hR
/-- below n: h; from n on: zero -/
def upG (h : Nat → Nat) (n : Nat) (j : Nat) : Nat := if j < n then h j else 0
theorem upG_none (h : Nat → Nat) (j : Nat) : upG h 0 j = 0 := by simp [upG]
theorem upG_all (h : Nat → Nat) {n j : Nat} (hj : j < n) : upG h n j = h j := by simp [upG, hj]
theorem upG_put (h : Nat → Nat) (n j : Nat) : putG (upG h n) n (h n) j = upG h (n + 1) j := by
  unfold putG upG
  by_cases e : j = n
  · subst e; simp
  · rw [if_neg e]
    by_cases e2 : j < n
    · rw [if_pos e2, if_pos (by omega)]
    · rw [if_neg e2, if_neg (by omega)]
end Go.Proofs.Ytanjpajnciifiaa
