/- SetMath, SetEq, RxRow, put together. -/
import Derived.Test.YtbokhofdgdcpdaaDoorSp01
import Derived.Lib.TrailingZeros
import Derived.Laws.BitsAllLaws
import Derived.ChangeKeysEq
import Derived.Laws.StructEq
import Derived.Handy
import Derived.Test.YtbokhofdgdcpdaaDoorSp02
import Derived.Laws.OwnMore
/- Sets of bytes as four numbers of 64 bits: the mathematics, without the program. -/
namespace Go.Proofs.YtbokhofdgdcpdaaDoor

def low (f : Nat → Bool) : Nat → Nat
  | 0 => 0
  | n + 1 => low f n + if f n then 2 ^ n else 0
theorem low_lt (f : Nat → Bool) : ∀ n, low f n < 2 ^ n
  | 0 => by simp [low]
  | n + 1 => by
    have := low_lt f n
    simp only [low, Nat.pow_succ]
    split <;> omega
theorem low_bit (f : Nat → Bool) : ∀ n j, (low f n).testBit j = (decide (j < n) && f j)
  | 0, j => by simp [low]
  | n + 1, j => by
    have h := low_lt f n
    have ih := low_bit f n j
    have e : low f (n + 1) = 2 ^ n * (if f n then 1 else 0) + low f n := by
      simp only [low]
      split <;> simp [Nat.add_comm]
    rw [e, Nat.testBit_two_pow_mul_add _ h]
    by_cases hj : j < n
    · rw [if_pos hj, ih]
      simp [hj]
      intro; omega
    · rw [if_neg hj]
      by_cases he : j = n
      · subst he
        cases f j <;> simp
      · have h1 : ¬ j < n + 1 := by omega
        have h2 : j - n ≠ 0 := by omega
        simp only [h1, decide_false, Bool.false_and]
        split
        · exact Nat.testBit_lt_two_pow (Nat.lt_of_lt_of_le (show 1 < 2 ^ 1 by decide) (Nat.pow_le_pow_right (by decide) (by omega)))
        · simp

def word (f : Nat → Bool) (i : Nat) : Nat := low (fun j => f (64 * i + j)) 64
theorem word_lt (f : Nat → Bool) (i : Nat) : word f i < 18446744073709551616 := low_lt _ 64
theorem word_bit (f : Nat → Bool) (i j : Nat) : (word f i).testBit j = (decide (j < 64) && f (64 * i + j)) := low_bit _ 64 j
theorem word_eq {f : Nat → Bool} {i x : Nat} (hx : x < 18446744073709551616) (h : ∀ j, j < 64 → x.testBit j = f (64 * i + j)) : x = word f i := by
  apply Nat.eq_of_testBit_eq
  intro j
  rw [word_bit]
  by_cases hj : j < 64
  · simp [hj, h j hj]
  · simp only [hj, decide_false, Bool.false_and]
    exact Nat.testBit_lt_two_pow (Nat.lt_of_lt_of_le hx (Nat.pow_le_pow_right (n := 2) (i := 64) (by decide) (by omega)))
theorem word_congr {f g : Nat → Bool} (i : Nat) (h : ∀ j, j < 64 → f (64 * i + j) = g (64 * i + j)) : word f i = word g i :=
  word_eq (word_lt f i) fun j hj => by rw [word_bit]; simp [hj, h j hj]
theorem word_ext {f g : Nat → Bool} (h : ∀ n, n < 256 → f n = g n) (i : Nat) (hi : i < 4) : word f i = word g i :=
  word_congr i fun j hj => h _ (by omega)
theorem word_inj {f g : Nat → Bool} (h : ∀ i, i < 4 → word f i = word g i) (n : Nat) (hn : n < 256) : f n = g n := by
  have := congrArg (fun x => x.testBit (n % 64)) (h (n / 64) (by omega))
  simp only [word_bit] at this
  have hj : n % 64 < 64 := Nat.mod_lt _ (by decide)
  simp only [hj, decide_true, Bool.true_and] at this
  rwa [Nat.div_add_mod] at this

/-- what four numbers of 64 bits have -/
def mem (a b c d : Nat) (n : Nat) : Bool := ([a, b, c, d].getD (n / 64) 0).testBit (n % 64)
theorem word_mem {a b c d : Nat} (ha : a < 18446744073709551616) (hb : b < 18446744073709551616) (hc : c < 18446744073709551616) (hd : d < 18446744073709551616) :
    word (mem a b c d) 0 = a ∧ word (mem a b c d) 1 = b ∧ word (mem a b c d) 2 = c ∧ word (mem a b c d) 3 = d := by
  have key : ∀ i j, j < 64 → (64 * i + j) / 64 = i ∧ (64 * i + j) % 64 = j := fun i j hj => by omega
  refine ⟨(word_eq ha fun j hj => ?_).symm, (word_eq hb fun j hj => ?_).symm, (word_eq hc fun j hj => ?_).symm, (word_eq hd fun j hj => ?_).symm⟩
  · unfold mem; rw [(key 0 j hj).1, (key 0 j hj).2]; rfl
  · unfold mem; rw [(key 1 j hj).1, (key 1 j hj).2]; rfl
  · unfold mem; rw [(key 2 j hj).1, (key 2 j hj).2]; rfl
  · unfold mem; rw [(key 3 j hj).1, (key 3 j hj).2]; rfl

/-- what operations on sets say of the words -/
def fOr (f g : Nat → Bool) (n : Nat) : Bool := f n || g n
def fAnd (f g : Nat → Bool) (n : Nat) : Bool := f n && g n
def fMinus (f g : Nat → Bool) (n : Nat) : Bool := f n && !g n
def fNot (f : Nat → Bool) (n : Nat) : Bool := !f n
def fOne (m : Nat) (n : Nat) : Bool := decide (n = m)
def fNone (_ : Nat) : Bool := false
def fSpan (lo hi : Int) (n : Nat) : Bool := decide (lo ≤ n) && decide ((n : Int) ≤ hi)
/-- f below k, nothing from there on -/
def fUpto (f : Nat → Bool) (k : Nat) (n : Nat) : Bool := decide (n < k) && f n

theorem word_none (i : Nat) : word fNone i = 0 := (word_eq (by decide) fun j _ => by simp [fNone]).symm
theorem word_or (f g : Nat → Bool) (i : Nat) : bits .or .u64 (word f i) (word g i) = word (fOr f g) i := by
  rw [u64_or_nat _ _ (word_lt f i) (word_lt g i)]
  congr 1
  refine word_eq (Nat.or_lt_two_pow (n := 64) (word_lt f i) (word_lt g i)) fun j hj => ?_
  rw [Nat.testBit_or, word_bit, word_bit]
  simp [hj, fOr]
theorem word_and (f g : Nat → Bool) (i : Nat) : bits .and .u64 (word f i) (word g i) = word (fAnd f g) i := by
  rw [u64_and_nat _ _ (word_lt f i) (word_lt g i)]
  congr 1
  refine word_eq (Nat.and_lt_two_pow (n := 64) _ (word_lt g i)) fun j hj => ?_
  rw [Nat.testBit_and, word_bit, word_bit]
  simp [hj, fAnd]
theorem word_andNot (f g : Nat → Bool) (i : Nat) : bits .andNot .u64 (word f i) (word g i) = word (fMinus f g) i := by
  have hg := word_lt g i
  rw [u64_andNot_nat _ _ (word_lt f i) hg]
  congr 1
  refine word_eq (Nat.and_lt_two_pow (n := 64) _ (by omega)) fun j hj => ?_
  have e : 18446744073709551615 - word g i = 2 ^ 64 - (word g i + 1) := by omega
  rw [Nat.testBit_and, e, Nat.testBit_two_pow_sub_succ (n := 64) hg, word_bit, word_bit]
  simp [hj, fMinus]
theorem word_not (f : Nat → Bool) (i : Nat) : bits .xor .u64 18446744073709551615 (word f i) = word (fNot f) i := by
  have h := u64_xor_nat 18446744073709551615 (word f i) (by decide) (word_lt f i)
  refine Eq.trans h ?_
  congr 1
  refine word_eq (Nat.xor_lt_two_pow (n := 64) (by decide) (word_lt f i)) fun j hj => ?_
  rw [Nat.testBit_xor, word_bit, show (18446744073709551615 : Nat) = 2 ^ 64 - 1 from rfl, Nat.testBit_two_pow_sub_one]
  simp [hj, fNot]
theorem pow_bit (n : Int) (h0 : 0 ≤ n) (i : Nat) (hi : n.toNat / 64 = i) : IntKind.u64.wrap (2 ^ (n % 64).toNat) = word (fOne n.toNat) i := by
  obtain ⟨k, rfl⟩ := Int.eq_ofNat_of_zero_le h0
  simp only [Int.toNat_natCast] at hi
  have e : ((k : Int) % 64).toNat = k % 64 := by omega
  have hj : k % 64 < 64 := Nat.mod_lt _ (by decide)
  have hlt : 2 ^ (k % 64) < 18446744073709551616 := Nat.pow_lt_pow_right (a := 2) (n := 64) (by decide) hj
  have hw : word (fOne (k : Int).toNat) i = 2 ^ (k % 64) := by
    refine (word_eq hlt fun j hj => ?_).symm
    rw [Nat.testBit_two_pow]
    simp only [fOne, Int.toNat_natCast]
    congr 1
    simp only [eq_iff_iff]
    omega
  rw [e, hw, IntKind.wrap_u64]
  have h2 : ((2 : Int) ^ (k % 64)) = ((2 ^ (k % 64) : Nat) : Int) := by simp
  rw [h2]
  omega
theorem word_one_other (n : Nat) (i : Nat) (h : n / 64 ≠ i) : word (fOne n) i = 0 := by
  refine (word_eq (by decide) fun j hj => ?_).symm
  simp [fOne]
  omega
theorem word_has (f : Nat → Bool) (i j : Nat) (hj : j < 64) : (word f i : Int) / 2 ^ j % 2 = if f (64 * i + j) then 1 else 0 := by
  have h : (word f i).testBit j = f (64 * i + j) := by rw [word_bit]; simp [hj]
  rw [Nat.testBit_eq_decide_div_mod_eq] at h
  have e : (word f i : Int) / 2 ^ j % 2 = ((word f i / 2 ^ j % 2 : Nat) : Int) := by
    simp
  rw [e, ← h]
  have : word f i / 2 ^ j % 2 < 2 := Nat.mod_lt _ (by decide)
  generalize word f i / 2 ^ j % 2 = x at *
  split
  · simp_all
  · simp at *; omega
theorem at4 (g : Nat → Nat) (i : Nat) (h : i < 4) : [Value.int .u64 (g 0), Value.int .u64 (g 1), Value.int .u64 (g 2), Value.int .u64 (g 3)][i]? = some (.int .u64 (g i)) := by
  match i, h with
  | 0, _ | 1, _ | 2, _ | 3, _ => rfl
end Go.Proofs.YtbokhofdgdcpdaaDoor

/- Two arrays of four numbers, or of two, held against one another. -/
namespace Go.Proofs.YtbokhofdgdcpdaaDoor
open Go.RowKit

theorem items_step {P : Program} {w : World} {d : Nat} {e : TypeId} {k : IntKind} (he : P.plainKey e = true) (hu : P.underlying e = some (.int k)) {xs ys : Array Value} {j : Nat} {x y : Int} {is : List Nat} {r : Bool}
    (hx : xs[j * 1]? = some (.int k x)) (hy : ys[j * 1]? = some (.int k y)) (h : (Op.eqItems (d + 1) e 1 xs ys is).run P w = .ok r w) : (Op.eqItems (d + 1) e 1 xs ys (j :: is)).run P w = .ok (x == y && r) w := by
  simp only [Op.eqItems, Sem.run_bind]
  rw [run_part_plain (P := P) (w := w) he hx]
  simp only [Result.andThen_ok]
  rw [run_part_plain (P := P) (w := w) he hy]
  simp only [Result.andThen_ok]
  rw [run_equalIn_int w d e k k x y hu]
  simp only [Result.andThen_ok]
  cases (x == y)
  · simp
  · simpa using h
theorem items_end {P : Program} {w : World} {d : Nat} {e : TypeId} {xs ys : Array Value} : (Op.eqItems d e 1 xs ys []).run P w = .ok true w := by
  simp [Op.eqItems]

theorem eq_four (w : World) (a0 a1 a2 a3 b0 b1 b2 b3 : Int) :
    (Op.equalIn 10000 28 (.agg #[.int .u64 a0, .int .u64 a1, .int .u64 a2, .int .u64 a3]) (.agg #[.int .u64 b0, .int .u64 b1, .int .u64 b2, .int .u64 b3])).run Tryd.prog w = .ok (a0 == b0 && (a1 == b1 && (a2 == b2 && (a3 == b3 && true)))) w := by
  obtain ⟨i, hi⟩ : ∃ i, Tryd.prog.info? 26 = some i := Option.isSome_iff_exists.1 (by kernel_rfl)
  have hc : Tryd.prog.cellsOf 26 = 1 := by kernel_rfl
  have he : Tryd.prog.plainKey 26 = true := by kernel_rfl
  rw [run_equalIn_array (P := Tryd.prog) (w := w) 9999 _ _ Tryd.underlying28 hi, hc, show List.range 4 = [0, 1, 2, 3] from rfl]
  exact items_step (d := 9998) he Tryd.underlying26 rfl rfl (items_step he Tryd.underlying26 rfl rfl (items_step he Tryd.underlying26 rfl rfl (items_step he Tryd.underlying26 rfl rfl items_end)))
/-- two sets held against one another -/
def sameSet (f g : Nat → Bool) : Bool := (word f 0 : Int) == word g 0 && ((word f 1 : Int) == word g 1 && ((word f 2 : Int) == word g 2 && ((word f 3 : Int) == word g 3 && true)))
theorem same_iff (f g : Nat → Bool) : sameSet f g = true ↔ ∀ n, n < 256 → f n = g n := by
  unfold sameSet
  constructor
  · intro h
    simp at h
    exact word_inj fun i hi => match i, hi with
      | 0, _ => by omega
      | 1, _ => by omega
      | 2, _ => by omega
      | 3, _ => by omega
  · intro h
    rw [word_ext h 0 (by decide), word_ext h 1 (by decide), word_ext h 2 (by decide), word_ext h 3 (by decide)]
    simp
theorem same_of {f g : Nat → Bool} (h : ∀ n, n < 256 → f n = g n) : sameSet f g = true := (same_iff f g).2 h
theorem eq_sets (w : World) (f g : Nat → Bool) : (Op.equalIn 10000 28 (.agg #[.int .u64 (word (f) 0), .int .u64 (word (f) 1), .int .u64 (word (f) 2), .int .u64 (word (f) 3)]) (.agg #[.int .u64 (word (g) 0), .int .u64 (word (g) 1), .int .u64 (word (g) 2), .int .u64 (word (g) 3)])).run Tryd.prog w = .ok (sameSet f g) w := eq_four w _ _ _ _ _ _ _ _
theorem eq_none (w : World) (f : Nat → Bool) : (Op.equalIn 10000 28 (.agg #[.int .u64 (word (f) 0), .int .u64 (word (f) 1), .int .u64 (word (f) 2), .int .u64 (word (f) 3)]) (.agg #[.int .u64 0, .int .u64 0, .int .u64 0, .int .u64 0])).run Tryd.prog w = .ok (sameSet f fNone) w := by
  rw [eq_four]
  simp [sameSet, word_none]
end Go.Proofs.YtbokhofdgdcpdaaDoor

/- Slices of steps: what they read as; rows of steps that a call has made; two lists held against one another (slices.Equal, rx.Same). -/
namespace Go.Proofs.YtbokhofdgdcpdaaDoor
open Go.RowKit Go.Lib Go.Joins

/-- block b has the step s from place i on -/
def RxAt (w : World) (b i : Nat) (s : Stp) : Prop :=
  w.cell? ⟨b, i, none⟩ = some (.int .i64 s.k) ∧ w.cell? ⟨b, i + 1, none⟩ = some (.int .u64 s.a) ∧ w.cell? ⟨b, i + 2, none⟩ = some (.int .u64 s.b) ∧ w.cell? ⟨b, i + 3, none⟩ = some (.int .u64 s.c) ∧ w.cell? ⟨b, i + 4, none⟩ = some (.int .u64 s.d)
theorem RxAt.kept {w w' : World} {b i : Nat} {s : Stp} (h : RxAt w b i s) (hb : w'.heap[b]? = w.heap[b]?) : RxAt w' b i s :=
  ⟨(World.cell?_of_block (a := ⟨b, _, none⟩) hb).trans h.1, (World.cell?_of_block (a := ⟨b, _, none⟩) hb).trans h.2.1, (World.cell?_of_block (a := ⟨b, _, none⟩) hb).trans h.2.2.1, (World.cell?_of_block (a := ⟨b, _, none⟩) hb).trans h.2.2.2.1, (World.cell?_of_block (a := ⟨b, _, none⟩) hb).trans h.2.2.2.2⟩
/-- a slice of steps that reads as a list, in a block that meets C -/
def Rxs (C : Nat → Prop) (w : World) (a : Option Addr) (len : Nat) (L : List Stp) : Prop :=
  L.length = len ∧ (0 < len → ∃ b off, a = some ⟨b, off, none⟩ ∧ C b ∧ ∀ i, i < len → RxAt w b (off + i * 5) (L.getD i default))
theorem Rxs.below {C C' : Nat → Prop} {w w' : World} {a : Option Addr} {len : Nat} {L : List Stp} (h : Rxs C w a len L) (hb : ∀ b, C b → C' b ∧ w'.heap[b]? = w.heap[b]?) : Rxs C' w' a len L := by
  refine ⟨h.1, fun hp => ?_⟩
  obtain ⟨b, off, e, hC, hc⟩ := h.2 hp
  exact ⟨b, off, e, (hb b hC).1, fun i hi => (hc i hi).kept (hb b hC).2⟩
/-- the cells of a list of steps -/
def rxCells : List Stp → List Value
  | [] => []
  | s :: r => s.cells ++ rxCells r
theorem rxCells_len : ∀ L, (rxCells L).length = L.length * 5
  | [] => rfl
  | s :: r => by
    simp only [rxCells, List.length_append, rxCells_len r, List.length_cons, Stp.cells, List.length_nil]
    omega
theorem rxCells_append : ∀ a b, rxCells (a ++ b) = rxCells a ++ rxCells b
  | [], b => rfl
  | s :: r, b => by simp [rxCells, rxCells_append r b]
theorem rxCells_get : ∀ (L : List Stp) (i : Nat), i < L.length → ∀ j, j < 5 → (rxCells L)[i * 5 + j]? = ((L.getD i default).cells)[j]?
  | [], i, h, _, _ => by simp at h
  | s :: r, 0, _, j, hj => by
    simp only [rxCells, List.getD_cons_zero, Nat.zero_mul, Nat.zero_add]
    rw [List.getElem?_append_left (by simpa [Stp.cells] using hj)]
  | s :: r, i + 1, h, j, hj => by
    have ih := rxCells_get r i (by simpa using h) j hj
    have e : (s.cells).length = 5 := rfl
    rw [rxCells, List.getD_cons_succ, ← ih, show (i + 1) * 5 + j = 5 + (i * 5 + j) by omega, List.getElem?_append_right (by rw [e]; omega), e, Nat.add_sub_cancel_left]
theorem rxCells_one {u : Value} {L : List Stp} (h : u ∈ rxCells L) : u.oneCell' = true := by
  induction L with
  | nil => simp [rxCells] at h
  | cons s r ih =>
    rw [rxCells, List.mem_append] at h
    rcases h with h | h
    · simp only [Stp.cells, List.mem_cons, List.not_mem_nil, or_false] at h
      rcases h with rfl | rfl | rfl | rfl | rfl <;> rfl
    · exact ih h
/-- the cells that an append reads -/
theorem Rxs.news {C : Nat → Prop} {w : World} {b off len : Nat} {L : List Stp} (h : Rxs C w (some ⟨b, off, none⟩) len L) : ∀ j u, (rxCells L)[j]? = some u → w.cell? ((⟨b, off, none⟩ : Addr).add j) = some u := by
  intro j u hj
  have hl : j < L.length * 5 := by
    have := (List.getElem?_eq_some_iff.1 hj).1
    rwa [rxCells_len] at this
  obtain ⟨b', off', e, _, hc⟩ := h.2 (by rw [← h.1]; omega)
  simp only [Option.some.injEq, Addr.mk.injEq, and_true] at e
  obtain ⟨rfl, rfl⟩ := e
  have hi : j / 5 < L.length := by omega
  obtain ⟨c0, c1, c2, c3, c4⟩ := hc (j / 5) (by rw [← h.1]; exact hi)
  have hg := rxCells_get L (j / 5) hi (j % 5) (Nat.mod_lt _ (by decide))
  rw [show j / 5 * 5 + j % 5 = j by omega, hj] at hg
  rw [Addr.add_lit]
  have hm : j % 5 = 0 ∨ j % 5 = 1 ∨ j % 5 = 2 ∨ j % 5 = 3 ∨ j % 5 = 4 := by omega
  rcases hm with e | e | e | e | e
  · rw [e] at hg; rw [show off + j = off + j / 5 * 5 by omega, c0, hg]; rfl
  · rw [e] at hg; rw [show off + j = off + j / 5 * 5 + 1 by omega, c1, hg]; rfl
  · rw [e] at hg; rw [show off + j = off + j / 5 * 5 + 2 by omega, c2, hg]; rfl
  · rw [e] at hg; rw [show off + j = off + j / 5 * 5 + 3 by omega, c3, hg]; rfl
  · rw [e] at hg; rw [show off + j = off + j / 5 * 5 + 4 by omega, c4, hg]; rfl

theorem infoRx : (Tryd.prog.info? 67).map (fun i => (i.zero, i.size, i.bytes)) = some (some (kStp 0).val, 5, 40) := by kernel_rfl
/-- slice value v owns the steps L, in a block from base on -/
def RowX (w : World) (base : Nat) (v : Value) (L : List Stp) : Prop := w.ownsRow base 67 5 v L.length (rxCells L)
/-- slice value v reads as the steps L, in a block that meets C -/
def SlX (C : Nat → Prop) (w : World) (v : Value) (L : List Stp) : Prop := ∃ a cap, v = .slice a L.length cap ∧ L.length ≤ cap ∧ cap ≤ maxLen ∧ (a = none → cap = 0) ∧ Rxs C w a L.length L
/-- slice value v reads as the steps L, in a block from base on -/
def ReadsX (w : World) (base : Nat) (v : Value) (L : List Stp) : Prop := SlX (fun b => base ≤ b ∧ b < w.heap.size) w v L
theorem SlX.below {C C' : Nat → Prop} {w w' : World} {v : Value} {L : List Stp} (h : SlX C w v L) (hb : ∀ b, C b → C' b ∧ w'.heap[b]? = w.heap[b]?) : SlX C' w' v L := by
  obtain ⟨a, cap, rfl, h1, h2, h0, hS⟩ := h
  exact ⟨a, cap, rfl, h1, h2, h0, hS.below hb⟩
theorem rxAt_of_cells {w : World} {g : Nat} {L : List Stp} {i : Nat} (hi : i < L.length) (h : ∀ j, j < L.length * 5 → w.cell? ⟨g, j, none⟩ = (rxCells L)[j]?) : RxAt w g (i * 5) (L.getD i default) := by
  have hg := rxCells_get L i hi
  refine ⟨?_, ?_, ?_, ?_, ?_⟩
  · rw [h _ (by omega)]; have := hg 0 (by decide); simpa [Stp.cells] using this
  · rw [h _ (by omega)]; have := hg 1 (by decide); simpa [Stp.cells] using this
  · rw [h _ (by omega)]; have := hg 2 (by decide); simpa [Stp.cells] using this
  · rw [h _ (by omega)]; have := hg 3 (by decide); simpa [Stp.cells] using this
  · rw [h _ (by omega)]; have := hg 4 (by decide); simpa [Stp.cells] using this
theorem RowX.reads {w : World} {base : Nat} {v : Value} {L : List Stp} (h : RowX w base v L) : ReadsX w base v L := by
  have h' := h
  obtain ⟨_, ⟨rfl, h1⟩ | ⟨g, cap, cur, rfl, hb, hg, h1, h2, h3, h4⟩⟩ := h
  · exact ⟨none, 0, by rw [h1], by omega, by decide, fun _ => rfl, rfl, fun h => by omega⟩
  · refine ⟨some ⟨g, 0, none⟩, cap, rfl, h1, h2, (fun e => by cases e), rfl, fun _ => ⟨g, 0, rfl, ⟨hb, (Array.getElem?_eq_some_iff.1 hg).1⟩, fun i hi => ?_⟩⟩
    rw [Nat.zero_add]
    exact rxAt_of_cells hi fun j hj => World.ownsRow.cellAt h' j hj
theorem ReadsX.kept {w w' : World} {base : Nat} {v : Value} {L : List Stp} (h : ReadsX w base v L) (hb : Below w.heap.size w w') : ReadsX w' base v L :=
  SlX.below h fun b hb' => ⟨⟨hb'.1, by have := hb.size; omega⟩, hb.block b hb'.2⟩
theorem ReadsX.lower {w : World} {base base' : Nat} {v : Value} {L : List Stp} (h : ReadsX w base v L) (hb : base' ≤ base) : ReadsX w base' v L :=
  SlX.below h fun b hb' => ⟨⟨by omega, hb'.2⟩, rfl⟩
theorem RowX.nil (w : World) (base : Nat) : RowX w base (.slice none 0 0) [] := World.ownsRow_nil _ _ _ _
theorem RowX.below {w w' : World} {base : Nat} {v : Value} {L : List Stp} (h : RowX w base v L) (hb : Below w.heap.size w w') : RowX w' base v L := by
  refine ⟨h.1, ?_⟩
  rcases h.2 with hn | ⟨g, cap, cur, rfl, hb', hgg, rest⟩
  · exact .inl hn
  · exact .inr ⟨g, cap, cur, rfl, hb', by rw [hb.block g (Array.getElem?_eq_some_iff.1 hgg).1]; exact hgg, rest⟩
theorem RowX.more {w : World} {base : Nat} {v : Value} {L M : List Stp} (h : w.ownsRow base 67 5 v (L.length + M.length) (rxCells L ++ rxCells M)) : RowX w base v (L ++ M) := by
  unfold RowX
  rw [rxCells_append, List.length_append]
  exact h
theorem RowX.lower {w : World} {base base' : Nat} {v : Value} {L : List Stp} (h : RowX w base v L) (hb : base' ≤ base) : RowX w base' v L := ownsRow_le h hb
/-- what a call that makes steps hands back -/
def RetX (w : World) (L : List Stp) (e : Ending) (w' : World) : Prop := ∃ v, e = .returned v ∧ RowX w' w.heap.size v L ∧ Below w.heap.size w w'

/-! ### two lists held against one another -/
open Classical in
noncomputable def sameX (a b : List Stp) : Bool := decide (a = b)
theorem sameX_yes (a : List Stp) : sameX a a = true := by simp [sameX]
theorem sameX_no {a b : List Stp} (h : a ≠ b) : sameX a b = false := by simp [sameX, h]
def eqStp (x y : Stp) : Bool := x.k == y.k && (x.a == y.a && (x.b == y.b && (x.c == y.c && (x.d == y.d && true))))
theorem eqStp_iff (x y : Stp) : eqStp x y = true ↔ x = y := by
  obtain ⟨k, a, b, c, d⟩ := x
  obtain ⟨k', a', b', c', d'⟩ := y
  simp [eqStp]
theorem eq_fourAt (w : World) (D : Nat) (a0 a1 a2 a3 b0 b1 b2 b3 : Int) :
    (Op.equalIn (D + 1 + 1) 28 (.agg #[.int .u64 a0, .int .u64 a1, .int .u64 a2, .int .u64 a3]) (.agg #[.int .u64 b0, .int .u64 b1, .int .u64 b2, .int .u64 b3])).run Tryd.prog w = .ok (a0 == b0 && (a1 == b1 && (a2 == b2 && (a3 == b3 && true)))) w := by
  obtain ⟨i, hi⟩ : ∃ i, Tryd.prog.info? 26 = some i := Option.isSome_iff_exists.1 (by kernel_rfl)
  have hc : Tryd.prog.cellsOf 26 = 1 := by kernel_rfl
  have he : Tryd.prog.plainKey 26 = true := by kernel_rfl
  rw [run_equalIn_array (P := Tryd.prog) (w := w) (D + 1) _ _ Tryd.underlying28 hi, hc, show List.range 4 = [0, 1, 2, 3] from rfl]
  exact items_step (d := D) he Tryd.underlying26 rfl rfl (items_step he Tryd.underlying26 rfl rfl (items_step he Tryd.underlying26 rfl rfl (items_step he Tryd.underlying26 rfl rfl items_end)))
theorem part_set (w : World) (k a b c d : Int) : (part 28 #[.int .i64 k, .int .u64 a, .int .u64 b, .int .u64 c, .int .u64 d] 1).run Tryd.prog w = .ok (.agg #[.int .u64 a, .int .u64 b, .int .u64 c, .int .u64 d]) w := by
  simp [part, isAgg, run_underlying Tryd.underlying28]
theorem eq_stp (w : World) (x y : Stp) : (Op.equalIn 10000 67 x.val y.val).run Tryd.prog w = .ok (eqStp x y) w := by
  obtain ⟨k, a, b, c, d⟩ := x
  obtain ⟨k', a', b', c', d'⟩ := y
  have he : Tryd.prog.plainKey 65 = true := by kernel_rfl
  have hf : Tryd.prog.underlying 67 = some (.struct (Tryd.prog.fieldsOf 67)) := by kernel_rfl
  have hm : (Tryd.prog.fieldsOf 67).toList.map (fun f => (f.type, f.offset, f.name)) = [(65, 0, "Kind"), (28, 1, "Set")] := by kernel_rfl
  obtain ⟨f0, f1, hfs, t0, o0, n0, t1, o1, n1⟩ : ∃ f0 f1, (Tryd.prog.fieldsOf 67).toList = [f0, f1] ∧ f0.type = 65 ∧ f0.offset = 0 ∧ f0.name = "Kind" ∧ f1.type = 28 ∧ f1.offset = 1 ∧ f1.name = "Set" := by
    generalize (Tryd.prog.fieldsOf 67).toList = l at hm
    rcases l with _ | ⟨f0, _ | ⟨f1, _ | ⟨f2, r⟩⟩⟩
    · cases hm
    · cases (List.cons.inj hm).2
    · simp only [List.map_cons, List.map_nil, List.cons.injEq, Prod.mk.injEq, and_true] at hm
      exact ⟨f0, f1, rfl, hm.1.1, hm.1.2.1, hm.1.2.2, hm.2.1, hm.2.2.1, hm.2.2.2⟩
    · cases (List.cons.inj (List.cons.inj hm).2).2
  unfold Stp.val
  rw [run_equalIn_struct w 9999 _ _ _ hf (by kernel_rfl), hfs]
  simp only [Op.eqFields, t0, o0, n0, t1, o1, n1]
  simp only [ne_eq, String.reduceEq, not_false_eq_true, if_true, Sem.run_bind]
  rw [run_part_plain (P := Tryd.prog) (w := w) he (v := .int .i64 k) rfl]
  simp only [Result.andThen_ok]
  rw [run_part_plain (P := Tryd.prog) (w := w) he (v := .int .i64 k') rfl]
  simp only [Result.andThen_ok]
  rw [run_equalIn_int w 9998 _ .i64 .i64 k k' Tryd.underlying65]
  simp only [Result.andThen_ok, eqStp]
  cases (k == k')
  · simp
  · simp only [Bool.not_true, Bool.false_eq_true, if_false, Sem.run_bind, part_set, Result.andThen_ok, eq_fourAt w 9997, Bool.true_and]
    cases (a == a' && (b == b' && (c == c' && (d == d' && true)))) <;> simp
end Go.Proofs.YtbokhofdgdcpdaaDoor
