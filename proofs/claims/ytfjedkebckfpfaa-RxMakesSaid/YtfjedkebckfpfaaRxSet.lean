/- Contracts of the sets of one byte: the program's single, the reference's with and One. -/
import Derived.Test.YtfjedkebckfpfaaSetMath
import Derived.Test.YtfjedkebckfpfaaRxMake
import Derived.Handy
namespace Go.Proofs.Ytfjedkebckfpfaa
open Go.RowKit

/-- a set as it is returned, out of its four words -/
theorem ret_set {a b c d : Int} {f : Nat → Bool} (ha : a = word f 0) (hb : b = word f 1) (hc : c = word f 2) (hd : d = word f 3) :
    Ending.returned (.agg #[.int .u64 a, .int .u64 b, .int .u64 c, .int .u64 d]) = .returned (.agg #[.int .u64 (word (f) 0), .int .u64 (word (f) 1), .int .u64 (word (f) 2), .int .u64 (word (f) 3)]) := by
  rw [ha, hb, hc, hd]
theorem or_other (f : Nat → Bool) (n i : Nat) (h : n / 64 ≠ i) : word f i = word (fOr f (fOne n)) i :=
  word_congr i fun j hj => by
    simp only [fOr, fOne]
    have : decide (64 * i + j = n) = false := by simp; omega
    rw [this, Bool.or_false]
theorem single_calls (n : Int) (w : World) (h0 : 0 ≤ n) (h1 : n < 256) :
    Calls Try.prog 30 #[.int .u8 n] w fun e w' => e = .returned (.agg #[.int .u64 (word (fOne n.toNat) 0), .int .u64 (word (fOne n.toNat) 1), .int .u64 (word (fOne n.toNat) 2), .int .u64 (word (fOne n.toNat) 3)]) ∧ Below w.heap.size w w' := by
  have HB := hidden (pow_bit n h0)
  have HO := hidden (word_one_other n.toNat)
  have hc : (n / 64).toNat = 0 ∨ (n / 64).toNat = 1 ∨ (n / 64).toNat = 2 ∨ (n / 64).toNat = 3 := by omega
  rcases hc with hq | hq | hq | hq
  all_goals
    go_enter Try.func30, Try.ntmps30
    go_wp2
    go_returns
    refine ⟨ret_set ?_ ?_ ?_ ?_, by go_grown⟩
  all_goals first | exact HB.out _ (by omega) | (rw [HO.out _ (by omega)]; rfl)
theorem with_calls (f : Nat → Bool) (n : Int) (w : World) (h0 : 0 ≤ n) (h1 : n < 256) :
    Calls Try.prog 36 #[(.agg #[.int .u64 (word (f) 0), .int .u64 (word (f) 1), .int .u64 (word (f) 2), .int .u64 (word (f) 3)]), .int .i64 n] w fun e w' => e = .returned (.agg #[.int .u64 (word (fOr f (fOne n.toNat)) 0), .int .u64 (word (fOr f (fOne n.toNat)) 1), .int .u64 (word (fOr f (fOne n.toNat)) 2), .int .u64 (word (fOr f (fOne n.toNat)) 3)]) ∧ Below w.heap.size w w' := by
  have HB := hidden (pow_bit n h0)
  have HO := hidden (or_other f n.toNat)
  have HW := hidden (word_or f (fOne n.toNat))
  have hc : (n / 64).toNat = 0 ∨ (n / 64).toNat = 1 ∨ (n / 64).toNat = 2 ∨ (n / 64).toNat = 3 := by omega
  rcases hc with hq | hq | hq | hq
  all_goals
    go_enter Try.func36, Try.ntmps36
    go_wp2
    go_returns
    refine ⟨ret_set ?_ ?_ ?_ ?_, by go_grown⟩
  all_goals first | (rw [← HO.out _ (by omega)]; done) | exact congrArg _ (HO.out _ (by omega)) | (rw [HB.out _ (show n.toNat / 64 = 0 by omega)]; exact HW.out _) | (rw [HB.out _ (show n.toNat / 64 = 1 by omega)]; exact HW.out _) | (rw [HB.out _ (show n.toNat / 64 = 2 by omega)]; exact HW.out _) | (rw [HB.out _ (show n.toNat / 64 = 3 by omega)]; exact HW.out _)

/-- block B is an array of four words, with f in it -/
def SetAt (w : World) (B : Nat) (f : Nat → Bool) : Prop := w.heap[B]? = some (.cells #[.int .u64 (word (f) 0), .int .u64 (word (f) 1), .int .u64 (word (f) 2), .int .u64 (word (f) 3)] 25 (0, 0))
theorem SetAt.facts {w : World} {B : Nat} {f : Nat → Bool} (h : SetAt w B f) :
    w.cell? ⟨B, 0, none⟩ = some (.int .u64 (word f 0)) ∧ w.cell? ⟨B, 1, none⟩ = some (.int .u64 (word f 1)) ∧ w.cell? ⟨B, 2, none⟩ = some (.int .u64 (word f 2)) ∧ w.cell? ⟨B, 3, none⟩ = some (.int .u64 (word f 3)) ∧
    w.frozen? ⟨B, 0, none⟩ = false ∧ w.frozen? ⟨B, 1, none⟩ = false ∧ w.frozen? ⟨B, 2, none⟩ = false ∧ w.frozen? ⟨B, 3, none⟩ = false :=
  ⟨cell_of_row w B 0 _ _ _ h, cell_of_row w B 1 _ _ _ h, cell_of_row w B 2 _ _ _ h, cell_of_row w B 3 _ _ _ h,
    frozen_of_row w B 0 _ _ h, frozen_of_row w B 1 _ _ h, frozen_of_row w B 2 _ _ h, frozen_of_row w B 3 _ _ h⟩
theorem SetAt.lt {w : World} {B : Nat} {f : Nat → Bool} (h : SetAt w B f) : B < w.heap.size := by
  rcases Nat.lt_or_ge B w.heap.size with hlt | hge
  · exact hlt
  · unfold SetAt at h
    rw [Array.getElem?_eq_none hge] at h
    cases h
theorem SetAt.below {w w' : World} {B : Nat} {f : Nat → Bool} (h : SetAt w B f) (hb : Below w.heap.size w w') : SetAt w' B f :=
  (hb.block B h.lt).trans h
theorem SetAt.new (w : World) (f : Nat → Bool) : SetAt (w.alloc (.cells #[.int .u64 (word (f) 0), .int .u64 (word (f) 1), .int .u64 (word (f) 2), .int .u64 (word (f) 3)] 25)) w.heap.size f := heap_alloc_new w _
theorem SetAt.stored {w : World} {B : Nat} {f g : Nat → Bool} (h : SetAt w B f) :
    SetAt ((((w.setCell ⟨B, 0, none⟩ (.int .u64 (word g 0))).setCell ⟨B, 1, none⟩ (.int .u64 (word g 1))).setCell ⟨B, 2, none⟩ (.int .u64 (word g 2))).setCell ⟨B, 3, none⟩ (.int .u64 (word g 3))) B g :=
  heap_setCell_same _ B 3 _ _ _ (heap_setCell_same _ B 2 _ _ _ (heap_setCell_same _ B 1 _ _ _ (heap_setCell_same _ B 0 _ _ _ h)))
theorem SetAt.congr {w : World} {B : Nat} {f g : Nat → Bool} (h : SetAt w B f) (e : ∀ n, n < 256 → f n = g n) : SetAt w B g := by
  unfold SetAt at h ⊢
  rw [h, word_ext e 0 (by decide), word_ext e 1 (by decide), word_ext e 2 (by decide), word_ext e 3 (by decide)]
theorem below_cells {B : Nat} {a w : World} (h : Below B a w) (b : Nat) (hb : B ≤ b) (v0 v1 v2 v3 : Value) :
    Below B a ((((w.setCell ⟨b, 0, none⟩ v0).setCell ⟨b, 1, none⟩ v1).setCell ⟨b, 2, none⟩ v2).setCell ⟨b, 3, none⟩ v3) :=
  (((h.setCell hb _).setCell hb _).setCell hb _).setCell hb _
theorem zeros (f : Nat → Bool) (hf : ∀ i, word f i = 0) : (#[.int .u64 0, .int .u64 0, .int .u64 0, .int .u64 0] : Array Value) = #[.int .u64 (word (f) 0), .int .u64 (word (f) 1), .int .u64 (word (f) 2), .int .u64 (word (f) 3)] := by
  simp [hf]
theorem zeros_none : (#[.int .u64 0, .int .u64 0, .int .u64 0, .int .u64 0] : Array Value) = #[.int .u64 (word (fNone) 0), .int .u64 (word (fNone) 1), .int .u64 (word (fNone) 2), .int .u64 (word (fNone) 3)] := zeros _ word_none
theorem ret_setAt {fn : Func} {R : Ending → World → Prop} {a : Act} {w : World} {B p : Nat} {f g : Nat → Bool} (h : fn.results = #[.cell p 25]) (hp : a.tmps.getD p undef = .pointer (some ⟨B, 0, none⟩))
    (hd : a.defers = []) (hS : SetAt w B f) (e : ∀ n, n < 256 → f n = g n) (hR : R (.returned (.agg #[.int .u64 (word (g) 0), .int .u64 (word (g) 1), .int .u64 (word (g) 2), .int .u64 (word (g) 3)])) w) : bodyPost Try.prog fn R .ret a w :=
  bodyPost_ret (results_cell_row h _ w B 25 _ (0, 0) _ hp (hS.congr e) Try.underlying25 rfl (by kernel_rfl)) hd hR
theorem with_nat (f : Nat → Bool) (k : Nat) (w : World) (h : k < 256) :
    Calls Try.prog 36 #[(.agg #[.int .u64 (word (f) 0), .int .u64 (word (f) 1), .int .u64 (word (f) 2), .int .u64 (word (f) 3)]), .int .i64 k] w fun e w' => e = .returned (.agg #[.int .u64 (word (fOr f (fOne k)) 0), .int .u64 (word (fOr f (fOne k)) 1), .int .u64 (word (fOr f (fOne k)) 2), .int .u64 (word (fOr f (fOne k)) 3)]) ∧ Below w.heap.size w w' := by
  have := with_calls f k w (by omega) (by omega)
  rwa [Int.toNat_natCast] at this
theorem rone_calls (k : Nat) (w : World) (h : k < 256) :
    Calls Try.prog 31 #[.int .u8 k] w fun e w' => e = .returned (.agg #[.int .u64 (word (fOne k) 0), .int .u64 (word (fOne k) 1), .int .u64 (word (fOne k) 2), .int .u64 (word (fOne k) 3)]) ∧ Below w.heap.size w w' := by
  have hw := fun w => with_nat fNone k w h
  simp only [word_none] at hw
  have HW := hidden hw
  clear hw
  go_enter Try.func31, Try.ntmps31
  go_wp2_with fail
  refine (HW.out _).mono ?_
  rintro e w' ⟨rfl, hb1⟩
  have hS := (SetAt.new w fNone).below (by
    rw [zeros_none] at hb1
    exact hb1)
  obtain ⟨c0, c1, c2, c3, f0, f1, f2, f3⟩ := hS.facts
  have HS := hidden hS
  have HB := hidden (below_then ((Below.refl w.heap.size w).alloc (Nat.le_refl _) _) (by simp) hb1)
  clear hS hb1
  go_wp2
  exact ret_setAt Try.results31 rfl rfl HS.out.stored (fun n _ => by simp [fOr, fNone]) ⟨rfl, below_cells HB.out _ (by omega) _ _ _ _⟩
/-- the step of one byte -/
def bStp (n : Nat) : Stp := ⟨1, word (fOne n) 0, word (fOne n) 1, word (fOne n) 2, word (fOne n) 3⟩
end Go.Proofs.Ytfjedkebckfpfaa
