/- Base, SetMath, SetEq, put together. -/
import Derived.Test.YtbokhofdgdcpdaaDoorRows
import Derived.WalkKit
import Derived.ProofKit
import Derived.RegionTactic
import Derived.ChangeAlike
import Derived.Outline
import Derived.LoopTactic
import Derived.Laws.BytesArg
import Derived.Deep.QuietTactic
import Derived.BigQuiet
import Derived.OpenShut
import Derived.ShutString
import Derived.ChangeOld
import Derived.SizedLaws
import Derived.Lib.TrailingZeros
import Derived.Laws.BitsAllLaws
import Derived.ChangeKeysEq
import Derived.Laws.StructEq
import Derived.Handy
/- Small words that all of my texts share: facts kept from the walk, equality of texts, results. -/
namespace Go.Proofs.YtbokhofdgdcpdaaDoor
open Go.RowKit

theorem hidden {p : Prop} (h : p) : Hid p := h

/-- two texts are equal as the walk asks it -/
theorem text_eq {a b : ByteArray} (h : (a.toList == b.toList) = true) : a = b := by
  rw [beq_iff_eq, ByteArray.toList_eq, ByteArray.toList_eq] at h
  exact Go.WideShapes.bytes_inj h
theorem text_ne {a b : ByteArray} (h : (a.toList == b.toList) = false) : a ≠ b := by
  rintro rfl
  simp at h
theorem text_same (a : ByteArray) : (a.toList == a.toList) = true := by simp
theorem text_other {a b : ByteArray} (h : a ≠ b) : (a.toList == b.toList) = false := by
  rw [Bool.eq_false_iff]
  exact fun e => h (text_eq e)

/-- results, as numbers -/
theorem ret_i {k : IntKind} {a b : Int} (h : a = b) : Ending.returned (.int k a) = .returned (.int k b) := by rw [h]
theorem ret_b {a b : Bool} (h : a = b) : Ending.returned (.bool a) = .returned (.bool b) := by rw [h]
theorem ret_s {a b : ByteArray} (h : a = b) : Ending.returned (.string a) = .returned (.string b) := by rw [h]
theorem ret_ib {k : IntKind} {a b : Int} {c d : Bool} (h : a = b) (h' : c = d) : Ending.returned (.tuple #[.int k a, .bool c]) = .returned (.tuple #[.int k b, .bool d]) := by rw [h, h']
theorem ret_ii {k k' : IntKind} {a b c d : Int} (h : a = b) (h' : c = d) : Ending.returned (.tuple #[.int k a, .int k' c]) = .returned (.tuple #[.int k b, .int k' d]) := by rw [h, h']

/-- what was below the first number stays, over a second step whose number is its own world's -/
theorem below_then {B : Nat} {a w w' : World} (h : Below B a w) (hB : B ≤ w.heap.size) (k : Below w.heap.size w w') : Below B a w' := h.trans (k.mono hB)
theorem below_after {a w w' : World} (h : Below a.heap.size a w) (k : Below w.heap.size w w') : Below a.heap.size a w' := below_then h h.size k
theorem below_drawn {B : Nat} {a w : World} (h : Below B a w) (n : Nat) : Below B a (w.drewN n) := ⟨h.os, h.tape, h.output, h.size, h.block⟩

theorem own : ownKnob Tryd.prog.godebug = none := by kernel_rfl
theorem laidOut : laidOutB Tryd.prog = true := by kernel_rfl

theorem wf_i64 {n : Int} (h : (Lit.int .i64 n).wf = true) : -9223372036854775808 ≤ n ∧ n ≤ 9223372036854775807 := by
  simpa [Lit.wf, IntKind.min, IntKind.max, IntKind.signed, IntKind.bits] using h
theorem wf_u8 {n : Int} (h : (Lit.int .u8 n).wf = true) : 0 ≤ n ∧ n ≤ 255 := by
  simpa [Lit.wf, IntKind.min, IntKind.max, IntKind.signed, IntKind.bits] using h

section
open Go.ChangeShapes Go.WideShapes Go.ChangeAt
theorem cell_lt {w : World} {b o : Nat} {v : Value} (h : w.cell? ⟨b, o, none⟩ = some v) : b < w.heap.size := by
  rcases Nat.lt_or_ge b w.heap.size with hlt | hge
  · exact hlt
  · unfold World.cell? at h
    rw [Array.getElem?_eq_none hge] at h
    cases h
/-- a slice of numbers that reads as a list, below block B -/
def Ints (k : IntKind) (w : World) (B : Nat) (a : Option Addr) (len : Nat) (xs : List Int) : Prop :=
  xs.length = len ∧ (0 < len → ∃ b off, a = some ⟨b, off, none⟩ ∧ b < B ∧ ∀ i, i < len → w.cell? ⟨b, off + i, none⟩ = some (.int k (xs.getD i 0)))
theorem ints_below {k : IntKind} {w w' : World} {B : Nat} {a : Option Addr} {len : Nat} {xs : List Int} (h : Ints k w B a len xs) (hb : Below B w w') : Ints k w' w'.heap.size a len xs := by
  refine ⟨h.1, fun hp => ?_⟩
  obtain ⟨b, off, e, hB, hc⟩ := h.2 hp
  have e' : ∀ i, i < len → w'.cell? ⟨b, off + i, none⟩ = some (.int k (xs.getD i 0)) := fun i hi => (hb.cell (p := ⟨b, off + i, none⟩) hB).trans (hc i hi)
  exact ⟨b, off, e, cell_lt (e' 0 hp), e'⟩
def Fits (k : IntKind) (xs : List Int) : Prop := ∀ i, i < xs.length → (Lit.int k (xs.getD i 0)).wf = true
theorem open_slice_ints {H : Type} {enc : TypeId × Value → H} {k : IntKind} {t e : TypeId} {W : World} {a : Option Addr} {len cap : Nat} {d : DataW H} {p : List MemPlace}
    (ht : Tryd.prog.underlying t = some (.slice e)) (he : Tryd.prog.underlying e = some (.int k)) (hc : Tryd.prog.cellsOf e = 1)
    (h : DataW.Trod enc Tryd.prog W 0 (fun _ => true) true t (.slice a len cap) d p) : ∃ zs, (len ≤ cap ∧ cap ≤ maxLen ∧ Fits k zs ∧ Ints k W W.heap.size a len zs) ∧ (cap = 0 ∨ ∃ es sp, d = .slice es sp ∧ es.length + sp.length = cap) := by
  obtain ⟨fuel, hf⟩ := h
  rcases open_ints ht he hc hf with ⟨hcs, _⟩ | ⟨x, l, c, zs, hcs, _, hl, hm, hz, hx, hcell, hwz⟩
  · simp [Value.cells] at hcs
    obtain ⟨rfl, rfl, rfl⟩ := hcs
    exact ⟨[], ⟨Nat.le_refl _, Nat.zero_le _, fun i hi => absurd hi (by simp), rfl, fun h => absurd h (by omega)⟩, .inl rfl⟩
  · simp [Value.cells] at hcs
    obtain ⟨rfl, rfl, rfl⟩ := hcs
    have hz' : zs.length = cap := by simpa using hz
    have hget : ∀ i, i < len → (zs.take len).getD i 0 = zs.getD i 0 := fun i hi => by
      simp [List.getD_eq_getElem?_getD, hi]
    simp only [Prod.mk.injEq] at hx
    refine ⟨zs.take len, ⟨hl, hm, fun i hi => ?_, by simp; omega, fun hp => ?_⟩, .inr ⟨_, _, hx.1, by simp [lits]; omega⟩⟩
    · have hi' : i < len := by simp at hi; omega
      rw [hget i hi']
      refine hwz _ ?_
      rw [List.getD_eq_getElem?_getD, List.getElem?_eq_getElem (by omega)]
      exact List.getElem_mem _
    · obtain ⟨b, off, spot⟩ := x
      have h0 := hcell 0 (by omega)
      have hspot : spot = none := by simpa [Addr.add] using World.cell?_spot h0
      subst hspot
      rw [Addr.add_lit] at h0
      refine ⟨b, off, rfl, cell_lt h0, fun i hi => ?_⟩
      have := hcell i (by omega)
      rw [Addr.add_lit] at this
      rw [hget i hi]
      exact this

/-- what came in reads as it did, over all of the parameters -/
theorem all_read {H : Type} {enc : TypeId × Value → H} {W W' : World} (hb : Below W.heap.size W W') : ∀ {ts : List TypeId} {vs : List Value} {ds : List (DataW H)} {ps : List MemPlace},
    (∀ t ∈ ts, Tryd.prog.readableRec t = true ∧ t < Tryd.prog.types.size) → DataW.TrodAll enc Tryd.prog W 0 (fun _ => true) true ts vs ds ps → (∀ x ∈ ps, x.block < W.heap.size) →
    DataW.TrodAll enc Tryd.prog W' 0 (fun b => decide (b < W.heap.size)) true ts vs ds ps
  | [], vs, ds, ps, _, h, _ => by
    obtain ⟨rfl, rfl, rfl⟩ := trodAll_nil h
    exact trodAll_mk0
  | t :: ts, vs, ds, ps, hr, h, hlt => by
    obtain ⟨v, vs', d, ds', p, q, rfl, rfl, rfl, h0, h1⟩ := trodAll_cons h
    exact trodAll_cons_mk (Below.trod laidOut (hr t (List.mem_cons_self ..)).1 (hr t (List.mem_cons_self ..)).2 h0 hb (fun x hx => hlt x (List.mem_append_left _ hx)))
      (all_read hb (fun t' ht' => hr t' (List.mem_cons_of_mem _ ht')) h1 (fun x hx => hlt x (List.mem_append_right _ hx)))

theorem read_len {H : Type} {enc : TypeId × Value → H} {W : World} {b : Nat} {sp : Nat → Bool} {hd : Bool} : ∀ {ts : List TypeId} {vs : List Value} {ds : List (DataW H)} {ps : List MemPlace},
    DataW.TrodAll enc Tryd.prog W b sp hd ts vs ds ps → ds.length = ts.length
  | [], vs, ds, ps, h => by
    obtain ⟨rfl, rfl, rfl⟩ := trodAll_nil h
    rfl
  | t :: ts, vs, ds, ps, h => by
    obtain ⟨v, vs', d, ds', p, q, rfl, rfl, rfl, h0, h1⟩ := trodAll_cons h
    simp [read_len h1]

/-- THE LAST STEP OF EVERY LAW: true came back, and nothing that was there has turned -/
theorem ends_true {H : Type} {enc : TypeId × Value → H} {f : Func} {s : ChangeSpec} {W W' : World} {args : Array Value} {ds gs : List (DataW H)} {before : List MemPlace}
    (hW : DataW.Whole enc Tryd.prog f.params.toList s.vars false W args.toList ds gs before) (hv : s.vars = []) (hres : f.resultTypes = #[4])
    (hfn : ∀ xs : List (DataW H), xs.length = f.params.toList.length → s.fn H xs = { results := [.lit (.bool true)], args := xs })
    (hread : (f.params.toList.all fun t => Tryd.prog.readableRec t && decide (t < Tryd.prog.types.size)) = true) (hb : Below W.heap.size W W') :
    s.post enc Tryd.prog f false true false false W args (.bool true) W' := by
  have hW' := hW
  obtain ⟨p, q, hA, hV, rfl, hfz, hnd⟩ := hW
  have hlt : ∀ x ∈ p ++ q, x.block < W.heap.size := fun x hx => hW'.lt x hx
  have hread' : ∀ t ∈ f.params.toList, Tryd.prog.readableRec t = true ∧ t < Tryd.prog.types.size := fun t ht => by
    have := List.all_eq_true.1 hread t ht
    simpa using this
  have hlen := read_len hA
  rw [hv] at hV
  obtain ⟨rfl, rfl⟩ := trodVars_none hV
  have e := hfn (ds ++ []) (by simpa using hlen)
  refine ⟨ds, [], _, [], p, [], hW', ?_, ?_, ?_, hb.frame _, fun h => by cases h⟩
  · rw [e, hres]
    exact trodAll_mk1 (shut_bool Tryd.underlying4 _)
  · rw [e, List.append_nil]
    exact all_read hb hread' hA (fun x hx => hlt x (List.mem_append_left _ hx))
  · rw [e, hv]
    rfl
end
end Go.Proofs.YtbokhofdgdcpdaaDoor

/- Sets of bytes as four numbers of 64 bits: the mathematics, without the program. -/
namespace Go.Proofs.YtbokhofdgdcpdaaDoor

def low (f : Nat → Bool) : Nat → Nat
  | 0 => 0
  | n + 1 => low f n + if f n then 2 ^ n else 0
theorem low_lt (f : Nat → Bool) : ∀ n, low f n < 2 ^ n
  | 0 => by simp [low]
  | n + 1 => by
    have := low_lt f n
    simp only [low, Nat.pow_succ]
    split <;> omega
theorem low_bit (f : Nat → Bool) : ∀ n j, (low f n).testBit j = (decide (j < n) && f j)
  | 0, j => by simp [low]
  | n + 1, j => by
    have h := low_lt f n
    have ih := low_bit f n j
    have e : low f (n + 1) = 2 ^ n * (if f n then 1 else 0) + low f n := by
      simp only [low]
      split <;> simp [Nat.add_comm]
    rw [e, Nat.testBit_two_pow_mul_add _ h]
    by_cases hj : j < n
    · rw [if_pos hj, ih]
      simp [hj]
      intro; omega
    · rw [if_neg hj]
      by_cases he : j = n
      · subst he
        cases f j <;> simp
      · have h1 : ¬ j < n + 1 := by omega
        have h2 : j - n ≠ 0 := by omega
        simp only [h1, decide_false, Bool.false_and]
        split
        · exact Nat.testBit_lt_two_pow (Nat.lt_of_lt_of_le (show 1 < 2 ^ 1 by decide) (Nat.pow_le_pow_right (by decide) (by omega)))
        · simp

def word (f : Nat → Bool) (i : Nat) : Nat := low (fun j => f (64 * i + j)) 64
theorem word_lt (f : Nat → Bool) (i : Nat) : word f i < 18446744073709551616 := low_lt _ 64
theorem word_bit (f : Nat → Bool) (i j : Nat) : (word f i).testBit j = (decide (j < 64) && f (64 * i + j)) := low_bit _ 64 j
theorem word_eq {f : Nat → Bool} {i x : Nat} (hx : x < 18446744073709551616) (h : ∀ j, j < 64 → x.testBit j = f (64 * i + j)) : x = word f i := by
  apply Nat.eq_of_testBit_eq
  intro j
  rw [word_bit]
  by_cases hj : j < 64
  · simp [hj, h j hj]
  · simp only [hj, decide_false, Bool.false_and]
    exact Nat.testBit_lt_two_pow (Nat.lt_of_lt_of_le hx (Nat.pow_le_pow_right (n := 2) (i := 64) (by decide) (by omega)))
theorem word_congr {f g : Nat → Bool} (i : Nat) (h : ∀ j, j < 64 → f (64 * i + j) = g (64 * i + j)) : word f i = word g i :=
  word_eq (word_lt f i) fun j hj => by rw [word_bit]; simp [hj, h j hj]
theorem word_ext {f g : Nat → Bool} (h : ∀ n, n < 256 → f n = g n) (i : Nat) (hi : i < 4) : word f i = word g i :=
  word_congr i fun j hj => h _ (by omega)
theorem word_inj {f g : Nat → Bool} (h : ∀ i, i < 4 → word f i = word g i) (n : Nat) (hn : n < 256) : f n = g n := by
  have := congrArg (fun x => x.testBit (n % 64)) (h (n / 64) (by omega))
  simp only [word_bit] at this
  have hj : n % 64 < 64 := Nat.mod_lt _ (by decide)
  simp only [hj, decide_true, Bool.true_and] at this
  rwa [Nat.div_add_mod] at this

/-- what four numbers of 64 bits have -/
def mem (a b c d : Nat) (n : Nat) : Bool := ([a, b, c, d].getD (n / 64) 0).testBit (n % 64)
theorem word_mem {a b c d : Nat} (ha : a < 18446744073709551616) (hb : b < 18446744073709551616) (hc : c < 18446744073709551616) (hd : d < 18446744073709551616) :
    word (mem a b c d) 0 = a ∧ word (mem a b c d) 1 = b ∧ word (mem a b c d) 2 = c ∧ word (mem a b c d) 3 = d := by
  have key : ∀ i j, j < 64 → (64 * i + j) / 64 = i ∧ (64 * i + j) % 64 = j := fun i j hj => by omega
  refine ⟨(word_eq ha fun j hj => ?_).symm, (word_eq hb fun j hj => ?_).symm, (word_eq hc fun j hj => ?_).symm, (word_eq hd fun j hj => ?_).symm⟩
  · unfold mem; rw [(key 0 j hj).1, (key 0 j hj).2]; rfl
  · unfold mem; rw [(key 1 j hj).1, (key 1 j hj).2]; rfl
  · unfold mem; rw [(key 2 j hj).1, (key 2 j hj).2]; rfl
  · unfold mem; rw [(key 3 j hj).1, (key 3 j hj).2]; rfl

/-- what operations on sets say of the words -/
def fOr (f g : Nat → Bool) (n : Nat) : Bool := f n || g n
def fAnd (f g : Nat → Bool) (n : Nat) : Bool := f n && g n
def fMinus (f g : Nat → Bool) (n : Nat) : Bool := f n && !g n
def fNot (f : Nat → Bool) (n : Nat) : Bool := !f n
def fOne (m : Nat) (n : Nat) : Bool := decide (n = m)
def fNone (_ : Nat) : Bool := false
def fSpan (lo hi : Int) (n : Nat) : Bool := decide (lo ≤ n) && decide ((n : Int) ≤ hi)
/-- f below k, nothing from there on -/
def fUpto (f : Nat → Bool) (k : Nat) (n : Nat) : Bool := decide (n < k) && f n

theorem word_none (i : Nat) : word fNone i = 0 := (word_eq (by decide) fun j _ => by simp [fNone]).symm
theorem word_or (f g : Nat → Bool) (i : Nat) : bits .or .u64 (word f i) (word g i) = word (fOr f g) i := by
  rw [u64_or_nat _ _ (word_lt f i) (word_lt g i)]
  congr 1
  refine word_eq (Nat.or_lt_two_pow (n := 64) (word_lt f i) (word_lt g i)) fun j hj => ?_
  rw [Nat.testBit_or, word_bit, word_bit]
  simp [hj, fOr]
theorem word_and (f g : Nat → Bool) (i : Nat) : bits .and .u64 (word f i) (word g i) = word (fAnd f g) i := by
  rw [u64_and_nat _ _ (word_lt f i) (word_lt g i)]
  congr 1
  refine word_eq (Nat.and_lt_two_pow (n := 64) _ (word_lt g i)) fun j hj => ?_
  rw [Nat.testBit_and, word_bit, word_bit]
  simp [hj, fAnd]
theorem word_andNot (f g : Nat → Bool) (i : Nat) : bits .andNot .u64 (word f i) (word g i) = word (fMinus f g) i := by
  have hg := word_lt g i
  rw [u64_andNot_nat _ _ (word_lt f i) hg]
  congr 1
  refine word_eq (Nat.and_lt_two_pow (n := 64) _ (by omega)) fun j hj => ?_
  have e : 18446744073709551615 - word g i = 2 ^ 64 - (word g i + 1) := by omega
  rw [Nat.testBit_and, e, Nat.testBit_two_pow_sub_succ (n := 64) hg, word_bit, word_bit]
  simp [hj, fMinus]
theorem word_not (f : Nat → Bool) (i : Nat) : bits .xor .u64 18446744073709551615 (word f i) = word (fNot f) i := by
  have h := u64_xor_nat 18446744073709551615 (word f i) (by decide) (word_lt f i)
  refine Eq.trans h ?_
  congr 1
  refine word_eq (Nat.xor_lt_two_pow (n := 64) (by decide) (word_lt f i)) fun j hj => ?_
  rw [Nat.testBit_xor, word_bit, show (18446744073709551615 : Nat) = 2 ^ 64 - 1 from rfl, Nat.testBit_two_pow_sub_one]
  simp [hj, fNot]
theorem pow_bit (n : Int) (h0 : 0 ≤ n) (i : Nat) (hi : n.toNat / 64 = i) : IntKind.u64.wrap (2 ^ (n % 64).toNat) = word (fOne n.toNat) i := by
  obtain ⟨k, rfl⟩ := Int.eq_ofNat_of_zero_le h0
  simp only [Int.toNat_natCast] at hi
  have e : ((k : Int) % 64).toNat = k % 64 := by omega
  have hj : k % 64 < 64 := Nat.mod_lt _ (by decide)
  have hlt : 2 ^ (k % 64) < 18446744073709551616 := Nat.pow_lt_pow_right (a := 2) (n := 64) (by decide) hj
  have hw : word (fOne (k : Int).toNat) i = 2 ^ (k % 64) := by
    refine (word_eq hlt fun j hj => ?_).symm
    rw [Nat.testBit_two_pow]
    simp only [fOne, Int.toNat_natCast]
    congr 1
    simp only [eq_iff_iff]
    omega
  rw [e, hw, IntKind.wrap_u64]
  have h2 : ((2 : Int) ^ (k % 64)) = ((2 ^ (k % 64) : Nat) : Int) := by simp
  rw [h2]
  omega
theorem word_one_other (n : Nat) (i : Nat) (h : n / 64 ≠ i) : word (fOne n) i = 0 := by
  refine (word_eq (by decide) fun j hj => ?_).symm
  simp [fOne]
  omega
theorem word_has (f : Nat → Bool) (i j : Nat) (hj : j < 64) : (word f i : Int) / 2 ^ j % 2 = if f (64 * i + j) then 1 else 0 := by
  have h : (word f i).testBit j = f (64 * i + j) := by rw [word_bit]; simp [hj]
  rw [Nat.testBit_eq_decide_div_mod_eq] at h
  have e : (word f i : Int) / 2 ^ j % 2 = ((word f i / 2 ^ j % 2 : Nat) : Int) := by
    simp
  rw [e, ← h]
  have : word f i / 2 ^ j % 2 < 2 := Nat.mod_lt _ (by decide)
  generalize word f i / 2 ^ j % 2 = x at *
  split
  · simp_all
  · simp at *; omega
theorem at4 (g : Nat → Nat) (i : Nat) (h : i < 4) : [Value.int .u64 (g 0), Value.int .u64 (g 1), Value.int .u64 (g 2), Value.int .u64 (g 3)][i]? = some (.int .u64 (g i)) := by
  match i, h with
  | 0, _ | 1, _ | 2, _ | 3, _ => rfl
end Go.Proofs.YtbokhofdgdcpdaaDoor

/- Two arrays of four numbers, or of two, held against one another. -/
namespace Go.Proofs.YtbokhofdgdcpdaaDoor
open Go.RowKit

theorem items_step {P : Program} {w : World} {d : Nat} {e : TypeId} {k : IntKind} (he : P.plainKey e = true) (hu : P.underlying e = some (.int k)) {xs ys : Array Value} {j : Nat} {x y : Int} {is : List Nat} {r : Bool}
    (hx : xs[j * 1]? = some (.int k x)) (hy : ys[j * 1]? = some (.int k y)) (h : (Op.eqItems (d + 1) e 1 xs ys is).run P w = .ok r w) : (Op.eqItems (d + 1) e 1 xs ys (j :: is)).run P w = .ok (x == y && r) w := by
  simp only [Op.eqItems, Sem.run_bind]
  rw [run_part_plain (P := P) (w := w) he hx]
  simp only [Result.andThen_ok]
  rw [run_part_plain (P := P) (w := w) he hy]
  simp only [Result.andThen_ok]
  rw [run_equalIn_int w d e k k x y hu]
  simp only [Result.andThen_ok]
  cases (x == y)
  · simp
  · simpa using h
theorem items_end {P : Program} {w : World} {d : Nat} {e : TypeId} {xs ys : Array Value} : (Op.eqItems d e 1 xs ys []).run P w = .ok true w := by
  simp [Op.eqItems]

theorem eq_four (w : World) (a0 a1 a2 a3 b0 b1 b2 b3 : Int) :
    (Op.equalIn 10000 28 (.agg #[.int .u64 a0, .int .u64 a1, .int .u64 a2, .int .u64 a3]) (.agg #[.int .u64 b0, .int .u64 b1, .int .u64 b2, .int .u64 b3])).run Tryd.prog w = .ok (a0 == b0 && (a1 == b1 && (a2 == b2 && (a3 == b3 && true)))) w := by
  obtain ⟨i, hi⟩ : ∃ i, Tryd.prog.info? 26 = some i := Option.isSome_iff_exists.1 (by kernel_rfl)
  have hc : Tryd.prog.cellsOf 26 = 1 := by kernel_rfl
  have he : Tryd.prog.plainKey 26 = true := by kernel_rfl
  rw [run_equalIn_array (P := Tryd.prog) (w := w) 9999 _ _ Tryd.underlying28 hi, hc, show List.range 4 = [0, 1, 2, 3] from rfl]
  exact items_step (d := 9998) he Tryd.underlying26 rfl rfl (items_step he Tryd.underlying26 rfl rfl (items_step he Tryd.underlying26 rfl rfl (items_step he Tryd.underlying26 rfl rfl items_end)))
/-- two sets held against one another -/
def sameSet (f g : Nat → Bool) : Bool := (word f 0 : Int) == word g 0 && ((word f 1 : Int) == word g 1 && ((word f 2 : Int) == word g 2 && ((word f 3 : Int) == word g 3 && true)))
theorem same_iff (f g : Nat → Bool) : sameSet f g = true ↔ ∀ n, n < 256 → f n = g n := by
  unfold sameSet
  constructor
  · intro h
    simp at h
    exact word_inj fun i hi => match i, hi with
      | 0, _ => by omega
      | 1, _ => by omega
      | 2, _ => by omega
      | 3, _ => by omega
  · intro h
    rw [word_ext h 0 (by decide), word_ext h 1 (by decide), word_ext h 2 (by decide), word_ext h 3 (by decide)]
    simp
theorem same_of {f g : Nat → Bool} (h : ∀ n, n < 256 → f n = g n) : sameSet f g = true := (same_iff f g).2 h
theorem eq_sets (w : World) (f g : Nat → Bool) : (Op.equalIn 10000 28 (.agg #[.int .u64 (word (f) 0), .int .u64 (word (f) 1), .int .u64 (word (f) 2), .int .u64 (word (f) 3)]) (.agg #[.int .u64 (word (g) 0), .int .u64 (word (g) 1), .int .u64 (word (g) 2), .int .u64 (word (g) 3)])).run Tryd.prog w = .ok (sameSet f g) w := eq_four w _ _ _ _ _ _ _ _
theorem eq_none (w : World) (f : Nat → Bool) : (Op.equalIn 10000 28 (.agg #[.int .u64 (word (f) 0), .int .u64 (word (f) 1), .int .u64 (word (f) 2), .int .u64 (word (f) 3)]) (.agg #[.int .u64 0, .int .u64 0, .int .u64 0, .int .u64 0])).run Tryd.prog w = .ok (sameSet f fNone) w := by
  rw [eq_four]
  simp [sameSet, word_none]
end Go.Proofs.YtbokhofdgdcpdaaDoor
