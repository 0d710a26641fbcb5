/- FuRun, FuRunP, FuTwo, KiArr, put together. -/
import Derived.Test.YtnjjbaodfjmiaaaGreatLt22
import Derived.Test.YtnjjbaodfjmiaaaGreatLt17
import Derived.Test.YtnjjbaodfjmiaaaGreatLt18
import Derived.Test.YtnjjbaodfjmiaaaGreatLt19
import Derived.Test.YtnjjbaodfjmiaaaGreatLt21
import Derived.Test.YtnjjbaodfjmiaaaGreatLt01
import Derived.Laws.Tables
import Derived.Laws.Rows
/- Contracts of Run and the reference's Run. -/
namespace Go.Proofs.YtnjjbaodfjmiaaaGreat
open Go.RowKit Go.Lib Go.Joins
def runM (N : NetM) : List Nat → List Nat
  | [] => []
  | c :: r => r.foldl (fun l b => stepM N (spI l) b) (startM N c)
theorem stepM_len (N : NetM) (l : List Int) (b : Nat) : (stepM N l b).length ≤ N.sets.length := by
  unfold stepM
  split
  · exact hits_len _ _
  · simp
theorem startM_len (N : NetM) (b : Nat) : (startM N b).length ≤ N.sets.length := by
  unfold startM
  split
  · exact hits_len _ _
  · simp
end Go.Proofs.YtnjjbaodfjmiaaaGreat

/- Contract of Run. -/
namespace Go.Proofs.YtnjjbaodfjmiaaaGreat
open Go.RowKit Go.Lib Go.Joins
end Go.Proofs.YtnjjbaodfjmiaaaGreat

/- The chapter's two tokens, a+ and ab. -/
namespace Go.Proofs.YtnjjbaodfjmiaaaGreat
open Go.RowKit Go.Lib Go.Joins
def apL : List Stp := [bS 97, kStp 6]
def abL : List Stp := [bS 97, bS 98, kStp 3]
def apT : ByteArray := ⟨#[97, 43]⟩
def abT : ByteArray := ⟨#[97, 98]⟩
theorem ap_at : At apT 0 97 ∧ At apT 1 43 := ⟨⟨by decide, rfl⟩, ⟨by decide, rfl⟩⟩
theorem ab_at : At abT 0 97 ∧ At abT 1 98 := ⟨⟨by decide, rfl⟩, ⟨by decide, rfl⟩⟩
theorem ap_branch (w : World) : Calls Tryz.prog 88 #[.string apT, .int .i64 ((0 : Nat) : Int)] w (Rd w apL 2) := by
  obtain ⟨a0, a1⟩ := ap_at
  refine rbranch_calls apT w (by decide) [⟨0, 1, 43, [bS 97]⟩] 0 (by decide) (fun j => if j = 0 then 0 else 2) rfl ?_ ?_ (.inl rfl) (by decide)
  · intro j hj
    obtain rfl : j = 0 := by simpa using hj
    exact ⟨_, rfl, ⟨by decide, ⟨97, a0, by decide, by decide⟩, fun W _ => ratom_at apT 0 97 W a0 (by decide) (k_plain 97 (.inl rfl)), ⟨.inr (.inl rfl), a1, .inl rfl⟩, by decide, by decide⟩, rfl, rfl⟩
  · intro j hj
    have : apT.size = 2 := rfl
    rw [this]
    split <;> omega
theorem ab_branch (w : World) : Calls Tryz.prog 88 #[.string abT, .int .i64 ((0 : Nat) : Int)] w (Rd w abL 2) := by
  obtain ⟨a0, a1⟩ := ab_at
  refine rbranch_calls abT w (by decide) [⟨0, 1, 0, [bS 97]⟩, ⟨1, 2, 0, [bS 98]⟩] 0 (by decide) (fun j => j) rfl ?_ ?_ (.inl rfl) (by decide)
  · intro j hj
    have hj' : j = 0 ∨ j = 1 := by simp at hj; omega
    rcases hj' with rfl | rfl
    · exact ⟨_, rfl, ⟨by decide, ⟨97, a0, by decide, by decide⟩, fun W _ => ratom_at abT 0 97 W a0 (by decide) (k_plain 97 (.inl rfl)), .inr ⟨98, a1, by decide⟩, by decide, by decide⟩, rfl, rfl⟩
    · exact ⟨_, rfl, ⟨by decide, ⟨98, a1, by decide, by decide⟩, fun W _ => ratom_at abT 1 98 W a1 (by decide) (k_plain 98 (.inr (.inl rfl))), .inl rfl, by decide, by decide⟩, rfl, rfl⟩
  · intro j hj
    have : abT.size = 2 := rfl
    rw [this]
    exact hj
theorem ap_text (w : World) : Calls Tryz.prog 61 #[.string apT, .int .i64 ((0 : Nat) : Int)] w (Rd w apL 2) :=
  rtext_calls apT w (by decide) ⟨0, 2, apL⟩ [] (by decide) ⟨by decide, by decide, fun W _ => ap_branch W⟩ (fun _ => 2) rfl (fun j hj => by simp at hj) (fun _ _ => by decide) (.inl rfl) (by decide)
theorem ab_text (w : World) : Calls Tryz.prog 61 #[.string abT, .int .i64 ((0 : Nat) : Int)] w (Rd w abL 2) :=
  rtext_calls abT w (by decide) ⟨0, 2, abL⟩ [] (by decide) ⟨by decide, by decide, fun W _ => ab_branch W⟩ (fun _ => 2) rfl (fun j hj => by simp at hj) (fun _ _ => by decide) (.inl rfl) (by decide)
set_option maxRecDepth 100000 in
theorem ap_read (w : World) : Calls Tryz.prog 42 #[.string ⟨#[97, 43]⟩] w fun e w' => (∃ v, e = .returned (.tuple #[v, .int .i64 2, .int .i64 0]) ∧ RowX w' w.heap.size v apL) ∧ Below w.heap.size w w' := by
  have HT := hidden (ap_text w)
  go_enter Tryz.func42, Tryz.ntmps42
  go_wp2_with fail
  refine HT.out.mono ?_
  rintro e w1 ⟨v, rfl, hr, hb1⟩
  obtain ⟨a1, c1, rfl⟩ : ∃ a c, v = .slice a 2 c := by
    rcases ownsRow_forms hr with ⟨rfl, h0⟩ | ⟨g, cap, rfl⟩
    · cases h0
    · exact ⟨_, _, rfl⟩
  go_wp2
  go_ret3
  exact ⟨⟨_, rfl, hr⟩, hb1⟩
set_option maxRecDepth 100000 in
theorem ab_read (w : World) : Calls Tryz.prog 42 #[.string ⟨#[97, 98]⟩] w fun e w' => (∃ v, e = .returned (.tuple #[v, .int .i64 2, .int .i64 0]) ∧ RowX w' w.heap.size v abL) ∧ Below w.heap.size w w' := by
  have HT := hidden (ab_text w)
  go_enter Tryz.func42, Tryz.ntmps42
  go_wp2_with fail
  refine HT.out.mono ?_
  rintro e w1 ⟨v, rfl, hr, hb1⟩
  obtain ⟨a1, c1, rfl⟩ : ∃ a c, v = .slice a 3 c := by
    rcases ownsRow_forms hr with ⟨rfl, h0⟩ | ⟨g, cap, rfl⟩
    · cases h0
    · exact ⟨_, _, rfl⟩
  go_wp2
  go_ret3
  exact ⟨⟨_, rfl, hr⟩, hb1⟩
def twoT : List (List Stp) := [apL, abL]
theorem RowX.kept2 {w w' : World} {base : Nat} {v : Value} {L : List Stp} (h : RowX w base v L) (hb : Below w.heap.size w w') : RowX w' base v L :=
  World.ownsRow.kept (row := none) h ⟨hb.os, hb.tape, hb.output, hb.size, fun k hk _ => hb.block k hk⟩ (by cases v.ownBlock <;> simp)
theorem toks_two (w : World) (u1 u2 x y m n : Value) (t : TypeId) (g : Nat) (hg : g = w.heap.size) (h1 : SlX (fun b => b < w.heap.size) w u1 apL) (h2 : SlX (fun b => b < w.heap.size) w u2 abL) :
    Toks (fun b => b < (w.alloc (.cells #[x, u1, m, y, u2, n] t)).heap.size) (w.alloc (.cells #[x, u1, m, y, u2, n] t)) (.slice (some ⟨g, 0, none⟩) 2 2) twoT := by
  subst hg
  have hl : ∀ {v L}, SlX (fun b => b < w.heap.size) w v L → SlX (fun b => b < (w.alloc (.cells #[x, u1, m, y, u2, n] t)).heap.size) (w.alloc (.cells #[x, u1, m, y, u2, n] t)) v L := fun h => h.below fun b hb => ⟨by have h : b < w.heap.size := hb; simp; omega, ((Below.refl w.heap.size w).alloc (Nat.le_refl _) _).block b hb⟩
  refine ⟨_, _, rfl, by decide, by decide, fun _ => ⟨w.heap.size, 0, rfl, by simp, fun i hi => ?_⟩⟩
  have hi' : i = 0 ∨ i = 1 := by
    have : twoT.length = 2 := rfl
    omega
  rcases hi' with rfl | rfl
  · exact ⟨u1, cell_of_row _ _ 1 _ _ _ (heap_alloc_new w _), hl h1⟩
  · exact ⟨u2, cell_of_row _ _ 4 _ _ _ (heap_alloc_new w _), hl h2⟩
theorem two_few : FewT twoT := by
  refine ⟨by decide, fun i => ?_, fun i s hs => ?_⟩
  · match i with
    | 0 => decide
    | 1 => decide
    | _ + 2 => simp [twoT]
  · have hk : ∀ k, (kStp k).wide := fun k => ⟨by simp [kStp], by simp [kStp], by simp [kStp], by simp [kStp]⟩
    have hb : ∀ c, (bS c).wide := fun c => by
      have h := fun i => word_lt (fOne c.toNat) i
      exact ⟨⟨Int.natCast_nonneg _, by have := h 0; simp only [bS, sStp]; omega⟩, ⟨Int.natCast_nonneg _, by have := h 1; simp only [bS, sStp]; omega⟩, ⟨Int.natCast_nonneg _, by have := h 2; simp only [bS, sStp]; omega⟩, ⟨Int.natCast_nonneg _, by have := h 3; simp only [bS, sStp]; omega⟩⟩
    match i with
    | 0 =>
      simp only [twoT, apL, List.getD_cons_zero, List.mem_cons, List.not_mem_nil, or_false] at hs
      rcases hs with rfl | rfl
      · exact hb _
      · exact hk _
    | 1 =>
      simp only [twoT, abL, List.getD_cons_succ, List.getD_cons_zero, List.mem_cons, List.not_mem_nil, or_false] at hs
      rcases hs with rfl | rfl | rfl
      · exact hb _
      · exact hb _
      · exact hk _
    | _ + 2 => simp [twoT] at hs
theorem two_right : rightB (fuseM twoT) = true := by decide +kernel
theorem two_a : runM (fuseM twoT) [97] = [0, 1] := by decide +kernel
theorem two_ab : runM (fuseM twoT) [97, 98] = [2] := by decide +kernel
theorem two_b : runM (fuseM twoT) [98] = [] := by decide +kernel
theorem two_tok : tokenM (fuseM twoT) [2] = 1 := by decide +kernel
theorem two_len : (fuseM twoT).sets.length = 3 ∧ (fuseM twoT).first.length ≤ 100 := by decide +kernel
end Go.Proofs.YtnjjbaodfjmiaaaGreat

/- Arrays of 256 one-cell elements, by what stands at each place: a block, its cells, a store, the whole as a value. -/
namespace Go.Proofs.YtnjjbaodfjmiaaaGreat
open Go.RowKit

/-- 256 cells, by their places -/
def cellsN (v : Nat → Value) : Array Value := ((List.range 256).map v).toArray
theorem cellsN_size (v : Nat → Value) : (cellsN v).size = 256 := by simp [cellsN]
theorem cellsN_get (v : Nat → Value) {j : Nat} (h : j < 256) : (cellsN v)[j]? = some (v j) := by
  simp [cellsN, h]
theorem cellsN_congr {v u : Nat → Value} (h : ∀ j, j < 256 → v j = u j) : cellsN v = cellsN u := by
  unfold cellsN
  congr 1
  exact List.map_congr_left fun j hj => h j (by simpa using hj)
/-- v with x at place i -/
def putN (v : Nat → Value) (i : Nat) (x : Value) (j : Nat) : Value := if j = i then x else v j
theorem cellsN_set (v : Nat → Value) (i : Nat) (x : Value) : (cellsN v).setIfInBounds i x = cellsN (putN v i x) := by
  apply Array.ext
  · simp [cellsN]
  · intro j h1 h2
    have h3 : j < 256 := by simpa [cellsN] using h2
    simp only [cellsN, putN, List.setIfInBounds_toArray, List.getElem_toArray, List.getElem_set, List.getElem_map, List.getElem_range]
    by_cases e : i = j
    · subst e; simp
    · rw [if_neg e, if_neg (fun h => e h.symm)]
theorem cellsN_zero (x : Value) : Array.replicate 256 x = cellsN fun _ => x := by
  apply Array.ext
  · simp [cellsN]
  · intro j h1 h2
    simp [cellsN]
theorem cellsN_one (v : Nat → Value) (h : ∀ j, (v j).oneCell' = true) : (cellsN v).all (·.oneCell') = true := by
  simp [cellsN, h]

/-- block B holds an array of 256 -/
def ArrAt (w : World) (B : Nat) (t : TypeId) (v : Nat → Value) : Prop := w.heap[B]? = some (.cells (cellsN v) t (0, 0))
theorem ArrAt.lt {w : World} {B : Nat} {t : TypeId} {v : Nat → Value} (h : ArrAt w B t v) : B < w.heap.size := by
  rcases Nat.lt_or_ge B w.heap.size with hlt | hge
  · exact hlt
  · unfold ArrAt at h
    rw [Array.getElem?_eq_none hge] at h
    cases h
theorem ArrAt.cell {w : World} {B : Nat} {t : TypeId} {v : Nat → Value} (h : ArrAt w B t v) {j : Nat} (hj : j < 256) : w.cell? ⟨B, j, none⟩ = some (v j) :=
  (cell_of_row w B j _ _ _ h).trans (cellsN_get v hj)
theorem ArrAt.frozen {w : World} {B : Nat} {t : TypeId} {v : Nat → Value} (h : ArrAt w B t v) (j : Nat) : w.frozen? ⟨B, j, none⟩ = false :=
  frozen_of_row w B j _ _ h
theorem ArrAt.below {w w' : World} {B : Nat} {t : TypeId} {v : Nat → Value} (h : ArrAt w B t v) (hb : Below w.heap.size w w') : ArrAt w' B t v :=
  (hb.block B h.lt).trans h
theorem ArrAt.under {w w' : World} {B n : Nat} {t : TypeId} {v : Nat → Value} (h : ArrAt w B t v) (hb : Below n w w') (hn : B < n) : ArrAt w' B t v :=
  (hb.block B hn).trans h
theorem ArrAt.alloc {w : World} {B : Nat} {t : TypeId} {v : Nat → Value} (h : ArrAt w B t v) (o : Obj) : ArrAt (w.alloc o) B t v := (heap_alloc_old w o h.lt).trans h
theorem ArrAt.new (w : World) (t : TypeId) (v : Nat → Value) : ArrAt (w.alloc (.cells (cellsN v) t)) w.heap.size t v := heap_alloc_new w _
theorem ArrAt.newAt {w : World} {t : TypeId} {v : Nat → Value} {B : Nat} (h : w.heap.size = B) : ArrAt (w.alloc (.cells (cellsN v) t)) B t v := by
  subst h; exact ArrAt.new w t v
theorem ArrAt.stored {w : World} {B : Nat} {t : TypeId} {v : Nat → Value} (h : ArrAt w B t v) (i : Nat) (x : Value) : ArrAt (w.setCell ⟨B, i, none⟩ x) B t (putN v i x) := by
  unfold ArrAt
  rw [heap_setCell_same w B i _ t x h, cellsN_set]
theorem ArrAt.other {w : World} {B b i : Nat} {t : TypeId} {v : Nat → Value} (h : ArrAt w B t v) (hne : B ≠ b) (x : Value) : ArrAt (w.setCell ⟨b, i, none⟩ x) B t v := by
  unfold ArrAt at h ⊢
  rw [heap_setCell_other _ _ _ _ hne, h]
theorem ArrAt.otherRow {w : World} {B b : Nat} {t : TypeId} {v : Nat → Value} (h : ArrAt w B t v) (hne : B ≠ b) (cs : Array Value) : ArrAt (w.setRow b cs) B t v :=
  (setRow_other w b B cs hne).trans h
theorem ArrAt.storedRow {w : World} {B : Nat} {t : TypeId} {v : Nat → Value} (h : ArrAt w B t v) (u : Nat → Value) : ArrAt (w.setRow B (cellsN u)) B t u :=
  setRow_heap w B _ _ t _ h
theorem ArrAt.drew {w : World} {B : Nat} {t : TypeId} {v : Nat → Value} (h : ArrAt w B t v) : ArrAt w.drew B t v := h
theorem ArrAt.congr {w : World} {B : Nat} {t : TypeId} {v u : Nat → Value} (h : ArrAt w B t v) (e : ∀ j, j < 256 → v j = u j) : ArrAt w B t u := by
  unfold ArrAt at h ⊢
  rw [h, cellsN_congr e]
/-- what stood below a number stays, over a store in a block that is not below it -/
theorem below_setRow {B : Nat} {a w : World} (h : Below B a w) {b : Nat} (hb : B ≤ b) (cs : Array Value) : Below B a (w.setRow b cs) :=
  ⟨h.os, h.tape, h.output, by simpa using h.size, fun k hk => (setRow_other w b k cs (by omega)).trans (h.block k hk)⟩

/-- numbers of a byte, and bools, by their places -/
def nV (g : Nat → Nat) (j : Nat) : Value := .int .u8 (g j : Int)
def bV (p : Nat → Bool) (j : Nat) : Value := .bool (p j)
@[reducible] def ar (g : Nat → Nat) : Value := .agg (cellsN (nV g))
theorem ar_congr {g h : Nat → Nat} (e : ∀ j, j < 256 → g j = h j) : ar g = ar h := by
  unfold ar
  rw [cellsN_congr fun j hj => show nV g j = nV h j by unfold nV; rw [e j hj]]
def putG (g : Nat → Nat) (i x : Nat) (j : Nat) : Nat := if j = i then x else g j
theorem putN_nV (g : Nat → Nat) (i x j : Nat) : putN (nV g) i (.int .u8 (x : Int)) j = nV (putG g i x) j := by
  unfold putN nV putG
  split <;> rfl
def putB (p : Nat → Bool) (i : Nat) (x : Bool) (j : Nat) : Bool := if j = i then x else p j
theorem putN_bV (p : Nat → Bool) (i : Nat) (x : Bool) (j : Nat) : putN (bV p) i (.bool x) j = bV (putB p i x) j := by
  unfold putN bV putB
  split <;> rfl

theorem size_arr : (Tryz.prog.info? 22).map (·.size) = some 256 := by kernel_rfl
/-- what a new variable of 256 bytes holds -/
theorem run_zero_arr (w : World) : (zeroValue 22).run Tryz.prog w = .ok (ar fun _ => 0) w := by
  unfold ar
  rw [show nV (fun _ => 0) = (fun _ => Value.int .u8 0) from rfl, ← cellsN_zero]
  kernel_rfl
theorem run_build_arr (w : World) : (Instr.build 22 #[]).run Tryz.prog w = .ok (ar fun _ => 0) w := by
  unfold ar
  rw [show nV (fun _ => 0) = (fun _ => Value.int .u8 0) from rfl, ← cellsN_zero]
  kernel_rfl
theorem run_box_arr (g : Nat → Nat) (w : World) : (Instr.box 22 (ar g)).run Tryz.prog w = .ok (.pointer (some ⟨w.heap.size, 0, none⟩)) (w.alloc (.cells (cellsN (nV g)) 22)) := by
  simp [Instr.box, newVar, go_sem]

/-- a whole array is stored -/
theorem store_arr {ops : Array Oper} {rest : List Oper} {o : Oper} {a : Act} {w : World} {Q : Exit → Act → World → Prop} (hgd : o.guard = none) {x y : Operand} (ho : o.op = .store 22 x y)
    {B : Nat} {v : Nat → Value} (g : Nat → Nat) (hx : a.eval x = .pointer (some ⟨B, 0, none⟩)) (hy : a.eval y = ar g) (hA : ArrAt w B 22 v)
    (h : ∀ w', Hid (w' = w.setRow B (cellsN (nV g))) → w'.heap.size = w.heap.size → wpList Tryz.prog ops Q rest (a.put o.dst undef) w') : wpList Tryz.prog ops Q (o :: rest) a w :=
  wpList_store_row hgd 22 x y ho B _ hx hy 22 _ hA (by rw [cellsN_size]; exact size_arr) (by rw [cellsN_size, cellsN_size]) (cellsN_one _ fun _ => rfl) (h _ rfl (by simp))
/-- a whole array is loaded -/
theorem load_arr {ops : Array Oper} {rest : List Oper} {o : Oper} {a : Act} {w : World} {Q : Exit → Act → World → Prop} (hgd : o.guard = none) {x : Operand} (ho : o.op = .load 22 x)
    {B : Nat} {v : Nat → Value} (hx : a.eval x = .pointer (some ⟨B, 0, none⟩)) (hA : ArrAt w B 22 v)
    (h : wpList Tryz.prog ops Q rest (a.put o.dst (.agg (cellsN v))) w) : wpList Tryz.prog ops Q (o :: rest) a w :=
  wpList_load_row hgd 22 x ho B hx 22 _ _ _ hA Tryz.underlying22 rfl (by rw [cellsN_size]; exact size_arr) h
/-- a result that lies in memory -/
theorem ret_arr {fn : Func} {R : Ending → World → Prop} {a : Act} {w : World} {B p : Nat} {v : Nat → Value} {g : Nat → Nat} (h : fn.results = #[.cell p 22]) (hp : a.tmps.getD p undef = .pointer (some ⟨B, 0, none⟩))
    (hd : a.defers = []) (hS : ArrAt w B 22 v) (e : ∀ n, n < 256 → v n = nV g n) (hR : R (.returned (ar g)) w) : bodyPost Tryz.prog fn R .ret a w :=
  bodyPost_ret (results_cell_row h _ w B 22 _ (0, 0) _ hp (hS.congr e) Tryz.underlying22 rfl (by rw [cellsN_size]; exact size_arr)) hd hR
/-- below n: h; from n on: zero -/
def upG (h : Nat → Nat) (n : Nat) (j : Nat) : Nat := if j < n then h j else 0
theorem upG_none (h : Nat → Nat) (j : Nat) : upG h 0 j = 0 := by simp [upG]
theorem upG_all (h : Nat → Nat) {n j : Nat} (hj : j < n) : upG h n j = h j := by simp [upG, hj]
theorem upG_put (h : Nat → Nat) (n j : Nat) : putG (upG h n) n (h n) j = upG h (n + 1) j := by
  unfold putG upG
  by_cases e : j = n
  · subst e; simp
  · rw [if_neg e]
    by_cases e2 : j < n
    · rw [if_pos e2, if_pos (by omega)]
    · rw [if_neg e2, if_neg (by omega)]
end Go.Proofs.YtnjjbaodfjmiaaaGreat
