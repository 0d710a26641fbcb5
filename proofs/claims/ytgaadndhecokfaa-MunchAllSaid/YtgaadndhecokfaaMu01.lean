/- Base, KiArr, KiMath, SetMath, put together. -/
import Derived.Test.YtgaadndhecokfaaRows
import Derived.WalkKit
import Derived.ProofKit
import Derived.RegionTactic
import Derived.ChangeAlike
import Derived.Outline
import Derived.LoopTactic
import Derived.Laws.BytesArg
import Derived.Deep.QuietTactic
import Derived.BigQuiet
import Derived.OpenShut
import Derived.ShutString
import Derived.ChangeOld
import Derived.SizedLaws
import Derived.Laws.Tables
import Derived.Laws.Rows
import Derived.Lib.TrailingZeros
import Derived.Laws.BitsAllLaws
/- Small words that all of my texts share: facts kept from the walk, equality of texts, results. -/
namespace Go.Proofs.Ytgaadndhecokfaa
open Go.RowKit

theorem hidden {p : Prop} (h : p) : Hid p := h

/-- results, as numbers -/
theorem ret_i {k : IntKind} {a b : Int} (h : a = b) : Ending.returned (.int k a) = .returned (.int k b) := by rw [h]
theorem ret_b {a b : Bool} (h : a = b) : Ending.returned (.bool a) = .returned (.bool b) := by rw [h]
/-- what was below the first number stays, over a second step whose number is its own world's -/
theorem below_then {B : Nat} {a w w' : World} (h : Below B a w) (hB : B ≤ w.heap.size) (k : Below w.heap.size w w') : Below B a w' := h.trans (k.mono hB)
theorem below_after {a w w' : World} (h : Below a.heap.size a w) (k : Below w.heap.size w w') : Below a.heap.size a w' := below_then h h.size k
theorem below_drawn {B : Nat} {a w : World} (h : Below B a w) (n : Nat) : Below B a (w.drewN n) := ⟨h.os, h.tape, h.output, h.size, h.block⟩

theorem own : ownKnob Try.prog.godebug = none := by kernel_rfl
theorem wf_u8 {n : Int} (h : (Lit.int .u8 n).wf = true) : 0 ≤ n ∧ n ≤ 255 := by
  simpa [Lit.wf, IntKind.min, IntKind.max, IntKind.signed, IntKind.bits] using h

section
open Go.ChangeShapes Go.WideShapes Go.ChangeAt
theorem cell_lt {w : World} {b o : Nat} {v : Value} (h : w.cell? ⟨b, o, none⟩ = some v) : b < w.heap.size := by
  rcases Nat.lt_or_ge b w.heap.size with hlt | hge
  · exact hlt
  · unfold World.cell? at h
    rw [Array.getElem?_eq_none hge] at h
    cases h
end
end Go.Proofs.Ytgaadndhecokfaa

/- Arrays of 256 one-cell elements, by what stands at each place: a block, its cells, a store, the whole as a value. -/
namespace Go.Proofs.Ytgaadndhecokfaa
open Go.RowKit

/-- 256 cells, by their places -/
def cellsN (v : Nat → Value) : Array Value := ((List.range 256).map v).toArray
theorem cellsN_size (v : Nat → Value) : (cellsN v).size = 256 := by simp [cellsN]
theorem cellsN_get (v : Nat → Value) {j : Nat} (h : j < 256) : (cellsN v)[j]? = some (v j) := by
  simp [cellsN, h]
theorem cellsN_congr {v u : Nat → Value} (h : ∀ j, j < 256 → v j = u j) : cellsN v = cellsN u := by
  unfold cellsN
  congr 1
  exact List.map_congr_left fun j hj => h j (by simpa using hj)
/-- v with x at place i -/
def putN (v : Nat → Value) (i : Nat) (x : Value) (j : Nat) : Value := if j = i then x else v j
theorem cellsN_set (v : Nat → Value) (i : Nat) (x : Value) : (cellsN v).setIfInBounds i x = cellsN (putN v i x) := by
  apply Array.ext
  · simp [cellsN]
  · intro j h1 h2
    have h3 : j < 256 := by simpa [cellsN] using h2
    simp only [cellsN, putN, List.setIfInBounds_toArray, List.getElem_toArray, List.getElem_set, List.getElem_map, List.getElem_range]
    by_cases e : i = j
    · subst e; simp
    · rw [if_neg e, if_neg (fun h => e h.symm)]
theorem cellsN_zero (x : Value) : Array.replicate 256 x = cellsN fun _ => x := by
  apply Array.ext
  · simp [cellsN]
  · intro j h1 h2
    simp [cellsN]
theorem cellsN_one (v : Nat → Value) (h : ∀ j, (v j).oneCell' = true) : (cellsN v).all (·.oneCell') = true := by
  simp [cellsN, h]

/-- block B holds an array of 256 -/
def ArrAt (w : World) (B : Nat) (t : TypeId) (v : Nat → Value) : Prop := w.heap[B]? = some (.cells (cellsN v) t (0, 0))
theorem ArrAt.lt {w : World} {B : Nat} {t : TypeId} {v : Nat → Value} (h : ArrAt w B t v) : B < w.heap.size := by
  rcases Nat.lt_or_ge B w.heap.size with hlt | hge
  · exact hlt
  · unfold ArrAt at h
    rw [Array.getElem?_eq_none hge] at h
    cases h
theorem ArrAt.cell {w : World} {B : Nat} {t : TypeId} {v : Nat → Value} (h : ArrAt w B t v) {j : Nat} (hj : j < 256) : w.cell? ⟨B, j, none⟩ = some (v j) :=
  (cell_of_row w B j _ _ _ h).trans (cellsN_get v hj)
theorem ArrAt.frozen {w : World} {B : Nat} {t : TypeId} {v : Nat → Value} (h : ArrAt w B t v) (j : Nat) : w.frozen? ⟨B, j, none⟩ = false :=
  frozen_of_row w B j _ _ h
theorem ArrAt.below {w w' : World} {B : Nat} {t : TypeId} {v : Nat → Value} (h : ArrAt w B t v) (hb : Below w.heap.size w w') : ArrAt w' B t v :=
  (hb.block B h.lt).trans h
theorem ArrAt.alloc {w : World} {B : Nat} {t : TypeId} {v : Nat → Value} (h : ArrAt w B t v) (o : Obj) : ArrAt (w.alloc o) B t v := (heap_alloc_old w o h.lt).trans h
theorem ArrAt.new (w : World) (t : TypeId) (v : Nat → Value) : ArrAt (w.alloc (.cells (cellsN v) t)) w.heap.size t v := heap_alloc_new w _
theorem ArrAt.newAt {w : World} {t : TypeId} {v : Nat → Value} {B : Nat} (h : w.heap.size = B) : ArrAt (w.alloc (.cells (cellsN v) t)) B t v := by
  subst h; exact ArrAt.new w t v
theorem ArrAt.stored {w : World} {B : Nat} {t : TypeId} {v : Nat → Value} (h : ArrAt w B t v) (i : Nat) (x : Value) : ArrAt (w.setCell ⟨B, i, none⟩ x) B t (putN v i x) := by
  unfold ArrAt
  rw [heap_setCell_same w B i _ t x h, cellsN_set]
theorem ArrAt.other {w : World} {B b i : Nat} {t : TypeId} {v : Nat → Value} (h : ArrAt w B t v) (hne : B ≠ b) (x : Value) : ArrAt (w.setCell ⟨b, i, none⟩ x) B t v := by
  unfold ArrAt at h ⊢
  rw [heap_setCell_other _ _ _ _ hne, h]
theorem ArrAt.otherRow {w : World} {B b : Nat} {t : TypeId} {v : Nat → Value} (h : ArrAt w B t v) (hne : B ≠ b) (cs : Array Value) : ArrAt (w.setRow b cs) B t v :=
  (setRow_other w b B cs hne).trans h
theorem ArrAt.storedRow {w : World} {B : Nat} {t : TypeId} {v : Nat → Value} (h : ArrAt w B t v) (u : Nat → Value) : ArrAt (w.setRow B (cellsN u)) B t u :=
  setRow_heap w B _ _ t _ h
theorem ArrAt.drew {w : World} {B : Nat} {t : TypeId} {v : Nat → Value} (h : ArrAt w B t v) : ArrAt w.drew B t v := h
theorem ArrAt.congr {w : World} {B : Nat} {t : TypeId} {v u : Nat → Value} (h : ArrAt w B t v) (e : ∀ j, j < 256 → v j = u j) : ArrAt w B t u := by
  unfold ArrAt at h ⊢
  rw [h, cellsN_congr e]
/-- what stood below a number stays, over a store in a block that is not below it -/
theorem below_setRow {B : Nat} {a w : World} (h : Below B a w) {b : Nat} (hb : B ≤ b) (cs : Array Value) : Below B a (w.setRow b cs) :=
  ⟨h.os, h.tape, h.output, by simpa using h.size, fun k hk => (setRow_other w b k cs (by omega)).trans (h.block k hk)⟩

/-- numbers of a byte, and bools, by their places -/
def nV (g : Nat → Nat) (j : Nat) : Value := .int .u8 (g j : Int)
@[reducible] def ar (g : Nat → Nat) : Value := .agg (cellsN (nV g))
def putG (g : Nat → Nat) (i x : Nat) (j : Nat) : Nat := if j = i then x else g j
theorem putN_nV (g : Nat → Nat) (i x j : Nat) : putN (nV g) i (.int .u8 (x : Int)) j = nV (putG g i x) j := by
  unfold putN nV putG
  split <;> rfl
theorem size_arr : (Try.prog.info? 22).map (·.size) = some 256 := by kernel_rfl
/-- what a new variable of 256 bytes holds -/
theorem run_zero_arr (w : World) : (zeroValue 22).run Try.prog w = .ok (ar fun _ => 0) w := by
  unfold ar
  rw [show nV (fun _ => 0) = (fun _ => Value.int .u8 0) from rfl, ← cellsN_zero]
  kernel_rfl
theorem run_build_arr (w : World) : (Instr.build 22 #[]).run Try.prog w = .ok (ar fun _ => 0) w := by
  unfold ar
  rw [show nV (fun _ => 0) = (fun _ => Value.int .u8 0) from rfl, ← cellsN_zero]
  kernel_rfl
theorem run_box_arr (g : Nat → Nat) (w : World) : (Instr.box 22 (ar g)).run Try.prog w = .ok (.pointer (some ⟨w.heap.size, 0, none⟩)) (w.alloc (.cells (cellsN (nV g)) 22)) := by
  simp [Instr.box, newVar, go_sem]

/-- a whole array is stored -/
theorem store_arr {ops : Array Oper} {rest : List Oper} {o : Oper} {a : Act} {w : World} {Q : Exit → Act → World → Prop} (hgd : o.guard = none) {x y : Operand} (ho : o.op = .store 22 x y)
    {B : Nat} {v : Nat → Value} (g : Nat → Nat) (hx : a.eval x = .pointer (some ⟨B, 0, none⟩)) (hy : a.eval y = ar g) (hA : ArrAt w B 22 v)
    (h : ∀ w', Hid (w' = w.setRow B (cellsN (nV g))) → w'.heap.size = w.heap.size → wpList Try.prog ops Q rest (a.put o.dst undef) w') : wpList Try.prog ops Q (o :: rest) a w :=
  wpList_store_row hgd 22 x y ho B _ hx hy 22 _ hA (by rw [cellsN_size]; exact size_arr) (by rw [cellsN_size, cellsN_size]) (cellsN_one _ fun _ => rfl) (h _ rfl (by simp))
/-- a whole array is loaded -/
theorem load_arr {ops : Array Oper} {rest : List Oper} {o : Oper} {a : Act} {w : World} {Q : Exit → Act → World → Prop} (hgd : o.guard = none) {x : Operand} (ho : o.op = .load 22 x)
    {B : Nat} {v : Nat → Value} (hx : a.eval x = .pointer (some ⟨B, 0, none⟩)) (hA : ArrAt w B 22 v)
    (h : wpList Try.prog ops Q rest (a.put o.dst (.agg (cellsN v))) w) : wpList Try.prog ops Q (o :: rest) a w :=
  wpList_load_row hgd 22 x ho B hx 22 _ _ _ hA Try.underlying22 rfl (by rw [cellsN_size]; exact size_arr) h
/-- below n: h; from n on: zero -/
def upG (h : Nat → Nat) (n : Nat) (j : Nat) : Nat := if j < n then h j else 0
theorem upG_none (h : Nat → Nat) (j : Nat) : upG h 0 j = 0 := by simp [upG]
theorem upG_all (h : Nat → Nat) {n j : Nat} (hj : j < n) : upG h n j = h j := by simp [upG, hj]
theorem upG_put (h : Nat → Nat) (n j : Nat) : putG (upG h n) n (h n) j = upG h (n + 1) j := by
  unfold putG upG
  by_cases e : j = n
  · subst e; simp
  · rw [if_neg e]
    by_cases e2 : j < n
    · rw [if_pos e2, if_pos (by omega)]
    · rw [if_neg e2, if_neg (by omega)]
end Go.Proofs.Ytgaadndhecokfaa

/- Classes of numbers by a key: two have one class just if they have one key; numbered in the order of their least ones. Of no program. -/
namespace Go.Proofs.Ytgaadndhecokfaa

/-- from a on, n at most: the first that p holds of, or the one behind them all -/
def seek (p : Nat → Bool) : Nat → Nat → Nat
  | 0, a => a
  | n + 1, a => if p a then a else seek p n (a + 1)
theorem seek_le (p : Nat → Bool) : ∀ n a, seek p n a ≤ a + n
  | 0, a => Nat.le_refl a
  | n + 1, a => by
    unfold seek
    split
    · exact Nat.le_add_right _ _
    · have := seek_le p n (a + 1); omega
theorem seek_min (p : Nat → Bool) : ∀ n a x, a ≤ x → x < seek p n a → p x = false
  | 0, a, x, h1, h2 => by unfold seek at h2; omega
  | n + 1, a, x, h1, h2 => by
    unfold seek at h2
    split at h2
    · omega
    · rename_i hp
      by_cases hx : x = a
      · subst hx; simpa using hp
      · exact seek_min p n (a + 1) x (by omega) h2
theorem seek_get (p : Nat → Bool) : ∀ n a, p (a + n) = true → p (seek p n a) = true
  | 0, a, h => h
  | n + 1, a, h => by
    unfold seek
    split
    · assumption
    · exact seek_get p n (a + 1) (by rw [← h]; congr 1; omega)

variable {κ : Type} [DecidableEq κ]
/-- the least number of b's key -/
def fstK (k : Nat → κ) (b : Nat) : Nat := seek (fun a => decide (k a = k b)) b 0
theorem fst_le (k : Nat → κ) (b : Nat) : fstK k b ≤ b := by
  have := seek_le (fun a => decide (k a = k b)) b 0
  unfold fstK; omega
theorem fst_key (k : Nat → κ) (b : Nat) : k (fstK k b) = k b := by
  have := seek_get (fun a => decide (k a = k b)) b 0 (by simp)
  exact of_decide_eq_true this
theorem fst_min (k : Nat → κ) {a b : Nat} (h : a < fstK k b) : k a ≠ k b := by
  have := seek_min (fun a => decide (k a = k b)) b 0 a (Nat.zero_le a) h
  simpa using this
theorem fst_eq (k : Nat → κ) {a b : Nat} (h : k a = k b) (hm : ∀ x, x < a → k x ≠ k b) : fstK k b = a := by
  by_cases h1 : fstK k b < a
  · exact absurd (fst_key k b) (hm _ h1)
  by_cases h2 : a < fstK k b
  · exact absurd h (fst_min k h2)
  omega
theorem fst_same (k : Nat → κ) {a b : Nat} (h : k a = k b) : fstK k a = fstK k b :=
  fst_eq k ((fst_key k b).trans h.symm) fun x hx => by
    rw [h]; exact fst_min k hx
theorem fst_fst (k : Nat → κ) (b : Nat) : fstK k (fstK k b) = fstK k b := fst_same k (fst_key k b)
/-- below n: how many are the least of their key -/
def cntK (k : Nat → κ) : Nat → Nat
  | 0 => 0
  | n + 1 => cntK k n + if fstK k n = n then 1 else 0
theorem cnt_new (k : Nat → κ) {n : Nat} (h : fstK k n = n) : cntK k (n + 1) = cntK k n + 1 := by
  show cntK k n + (if fstK k n = n then 1 else 0) = _
  rw [if_pos h]
theorem cnt_old (k : Nat → κ) {n : Nat} (h : fstK k n ≠ n) : cntK k (n + 1) = cntK k n := by
  show cntK k n + (if fstK k n = n then 1 else 0) = _
  rw [if_neg h]; rfl
theorem cnt_step (k : Nat → κ) (n : Nat) : cntK k n ≤ cntK k (n + 1) ∧ cntK k (n + 1) ≤ cntK k n + 1 := by
  by_cases h : fstK k n = n
  · rw [cnt_new k h]; omega
  · rw [cnt_old k h]; omega
theorem cnt_mono (k : Nat → κ) {m n : Nat} (h : m ≤ n) : cntK k m ≤ cntK k n := by
  induction n with
  | zero => rw [Nat.le_zero.1 h]; exact Nat.le_refl _
  | succ n ih =>
    by_cases e : m = n + 1
    · rw [e]; exact Nat.le_refl _
    · exact Nat.le_trans (ih (by omega)) (cnt_step k n).1
theorem cnt_lt (k : Nat → κ) {m n : Nat} (h : m < n) (hm : fstK k m = m) : cntK k m < cntK k n := by
  have h1 := cnt_new k hm
  have h2 := cnt_mono k (show m + 1 ≤ n from h)
  omega
theorem cntK_le (k : Nat → κ) (n : Nat) : cntK k n ≤ n := by
  induction n with
  | zero => exact Nat.le_refl _
  | succ n ih => have := (cnt_step k n).2; omega
/-- the class of b -/
def clsK (k : Nat → κ) (b : Nat) : Nat := cntK k (fstK k b)
theorem cls_new (k : Nat → κ) {b : Nat} (h : fstK k b = b) : clsK k b = cntK k b := by unfold clsK; rw [h]
theorem cls_first (k : Nat → κ) (b : Nat) : clsK k (fstK k b) = clsK k b := by unfold clsK; rw [fst_fst]
theorem cls_lt (k : Nat → κ) {b n : Nat} (h : b < n) : clsK k b < cntK k n :=
  cnt_lt k (Nat.lt_of_le_of_lt (fst_le k b) h) (fst_fst k b)
/-- each number below the count is a class -/
theorem cls_all (k : Nat → κ) {c : Nat} : ∀ {n : Nat}, c < cntK k n → ∃ b, b < n ∧ fstK k b = b ∧ cntK k b = c
  | 0, h => by simp [cntK] at h
  | n + 1, h => by
    by_cases e : fstK k n = n
    · by_cases hc : c < cntK k n
      · obtain ⟨b, h1, h2⟩ := cls_all k hc
        exact ⟨b, by omega, h2⟩
      · rw [cnt_new k e] at h
        exact ⟨n, by omega, e, by omega⟩
    · rw [cnt_old k e] at h
      obtain ⟨b, h1, h2⟩ := cls_all k h
      exact ⟨b, by omega, h2⟩
/-- numbers below m, each once: m at most -/
theorem few (m : Nat) : ∀ (l : List Nat), l.Nodup → (∀ x ∈ l, x < m) → l.length ≤ m := by
  induction m with
  | zero =>
    intro l _ h
    cases l with
    | nil => exact Nat.le_refl _
    | cons x l => exact absurd (h x (by simp)) (Nat.not_lt_zero x)
  | succ m ih =>
    intro l hn h
    by_cases hm : m ∈ l
    · have h1 := ih (l.erase m) (hn.erase m) fun x hx => by
        have hx2 := (List.Nodup.mem_erase_iff hn).1 hx
        have := h x hx2.2
        have := hx2.1
        omega
      rw [List.length_erase_of_mem hm] at h1
      omega
    · have := ih l hn fun x hx => by
        have h1 := h x hx
        have h2 : x ≠ m := fun e => hm (e ▸ hx)
        omega
      omega
end Go.Proofs.Ytgaadndhecokfaa

/- Sets of bytes as four numbers of 64 bits: the mathematics, without the program. -/
namespace Go.Proofs.Ytgaadndhecokfaa

def low (f : Nat → Bool) : Nat → Nat
  | 0 => 0
  | n + 1 => low f n + if f n then 2 ^ n else 0
theorem low_lt (f : Nat → Bool) : ∀ n, low f n < 2 ^ n
  | 0 => by simp [low]
  | n + 1 => by
    have := low_lt f n
    simp only [low, Nat.pow_succ]
    split <;> omega
theorem low_bit (f : Nat → Bool) : ∀ n j, (low f n).testBit j = (decide (j < n) && f j)
  | 0, j => by simp [low]
  | n + 1, j => by
    have h := low_lt f n
    have ih := low_bit f n j
    have e : low f (n + 1) = 2 ^ n * (if f n then 1 else 0) + low f n := by
      simp only [low]
      split <;> simp [Nat.add_comm]
    rw [e, Nat.testBit_two_pow_mul_add _ h]
    by_cases hj : j < n
    · rw [if_pos hj, ih]
      simp [hj]
      intro; omega
    · rw [if_neg hj]
      by_cases he : j = n
      · subst he
        cases f j <;> simp
      · have h1 : ¬ j < n + 1 := by omega
        have h2 : j - n ≠ 0 := by omega
        simp only [h1, decide_false, Bool.false_and]
        split
        · exact Nat.testBit_lt_two_pow (Nat.lt_of_lt_of_le (show 1 < 2 ^ 1 by decide) (Nat.pow_le_pow_right (by decide) (by omega)))
        · simp

def word (f : Nat → Bool) (i : Nat) : Nat := low (fun j => f (64 * i + j)) 64
theorem word_lt (f : Nat → Bool) (i : Nat) : word f i < 18446744073709551616 := low_lt _ 64
theorem word_bit (f : Nat → Bool) (i j : Nat) : (word f i).testBit j = (decide (j < 64) && f (64 * i + j)) := low_bit _ 64 j
theorem word_eq {f : Nat → Bool} {i x : Nat} (hx : x < 18446744073709551616) (h : ∀ j, j < 64 → x.testBit j = f (64 * i + j)) : x = word f i := by
  apply Nat.eq_of_testBit_eq
  intro j
  rw [word_bit]
  by_cases hj : j < 64
  · simp [hj, h j hj]
  · simp only [hj, decide_false, Bool.false_and]
    exact Nat.testBit_lt_two_pow (Nat.lt_of_lt_of_le hx (Nat.pow_le_pow_right (n := 2) (i := 64) (by decide) (by omega)))
theorem word_congr {f g : Nat → Bool} (i : Nat) (h : ∀ j, j < 64 → f (64 * i + j) = g (64 * i + j)) : word f i = word g i :=
  word_eq (word_lt f i) fun j hj => by rw [word_bit]; simp [hj, h j hj]
theorem word_ext {f g : Nat → Bool} (h : ∀ n, n < 256 → f n = g n) (i : Nat) (hi : i < 4) : word f i = word g i :=
  word_congr i fun j hj => h _ (by omega)
/-- what four numbers of 64 bits have -/
def mem (a b c d : Nat) (n : Nat) : Bool := ([a, b, c, d].getD (n / 64) 0).testBit (n % 64)
theorem word_mem {a b c d : Nat} (ha : a < 18446744073709551616) (hb : b < 18446744073709551616) (hc : c < 18446744073709551616) (hd : d < 18446744073709551616) :
    word (mem a b c d) 0 = a ∧ word (mem a b c d) 1 = b ∧ word (mem a b c d) 2 = c ∧ word (mem a b c d) 3 = d := by
  have key : ∀ i j, j < 64 → (64 * i + j) / 64 = i ∧ (64 * i + j) % 64 = j := fun i j hj => by omega
  refine ⟨(word_eq ha fun j hj => ?_).symm, (word_eq hb fun j hj => ?_).symm, (word_eq hc fun j hj => ?_).symm, (word_eq hd fun j hj => ?_).symm⟩
  · unfold mem; rw [(key 0 j hj).1, (key 0 j hj).2]; rfl
  · unfold mem; rw [(key 1 j hj).1, (key 1 j hj).2]; rfl
  · unfold mem; rw [(key 2 j hj).1, (key 2 j hj).2]; rfl
  · unfold mem; rw [(key 3 j hj).1, (key 3 j hj).2]; rfl

/-- what operations on sets say of the words -/
def fOr (f g : Nat → Bool) (n : Nat) : Bool := f n || g n
def fOne (m : Nat) (n : Nat) : Bool := decide (n = m)
def fNone (_ : Nat) : Bool := false
theorem word_none (i : Nat) : word fNone i = 0 := (word_eq (by decide) fun j _ => by simp [fNone]).symm
theorem word_or (f g : Nat → Bool) (i : Nat) : bits .or .u64 (word f i) (word g i) = word (fOr f g) i := by
  rw [u64_or_nat _ _ (word_lt f i) (word_lt g i)]
  congr 1
  refine word_eq (Nat.or_lt_two_pow (n := 64) (word_lt f i) (word_lt g i)) fun j hj => ?_
  rw [Nat.testBit_or, word_bit, word_bit]
  simp [hj, fOr]
theorem pow_bit (n : Int) (h0 : 0 ≤ n) (i : Nat) (hi : n.toNat / 64 = i) : IntKind.u64.wrap (2 ^ (n % 64).toNat) = word (fOne n.toNat) i := by
  obtain ⟨k, rfl⟩ := Int.eq_ofNat_of_zero_le h0
  simp only [Int.toNat_natCast] at hi
  have e : ((k : Int) % 64).toNat = k % 64 := by omega
  have hj : k % 64 < 64 := Nat.mod_lt _ (by decide)
  have hlt : 2 ^ (k % 64) < 18446744073709551616 := Nat.pow_lt_pow_right (a := 2) (n := 64) (by decide) hj
  have hw : word (fOne (k : Int).toNat) i = 2 ^ (k % 64) := by
    refine (word_eq hlt fun j hj => ?_).symm
    rw [Nat.testBit_two_pow]
    simp only [fOne, Int.toNat_natCast]
    congr 1
    simp only [eq_iff_iff]
    omega
  rw [e, hw, IntKind.wrap_u64]
  have h2 : ((2 : Int) ^ (k % 64)) = ((2 ^ (k % 64) : Nat) : Int) := by simp
  rw [h2]
  omega
theorem word_has (f : Nat → Bool) (i j : Nat) (hj : j < 64) : (word f i : Int) / 2 ^ j % 2 = if f (64 * i + j) then 1 else 0 := by
  have h : (word f i).testBit j = f (64 * i + j) := by rw [word_bit]; simp [hj]
  rw [Nat.testBit_eq_decide_div_mod_eq] at h
  have e : (word f i : Int) / 2 ^ j % 2 = ((word f i / 2 ^ j % 2 : Nat) : Int) := by
    simp
  rw [e, ← h]
  have : word f i / 2 ^ j % 2 < 2 := Nat.mod_lt _ (by decide)
  generalize word f i / 2 ^ j % 2 = x at *
  split
  · simp_all
  · simp at *; omega
theorem at4 (g : Nat → Nat) (i : Nat) (h : i < 4) : [Value.int .u64 (g 0), Value.int .u64 (g 1), Value.int .u64 (g 2), Value.int .u64 (g 3)][i]? = some (.int .u64 (g i)) := by
  match i, h with
  | 0, _ | 1, _ | 2, _ | 3, _ => rfl
end Go.Proofs.Ytgaadndhecokfaa
