/- Contracts of the set functions that go over all bytes, or over a list of sets. -/
import Derived.Test.YtanjpajnciifiaaSetOps
namespace Go.Proofs.Ytanjpajnciifiaa
open Go.RowKit

/-- block B is an array of four words, with f in it -/
def SetAt (w : World) (B : Nat) (f : Nat → Bool) : Prop := w.heap[B]? = some (.cells #[.int .u64 (word (f) 0), .int .u64 (word (f) 1), .int .u64 (word (f) 2), .int .u64 (word (f) 3)] 32 (0, 0))
theorem SetAt.facts {w : World} {B : Nat} {f : Nat → Bool} (h : SetAt w B f) :
    w.cell? ⟨B, 0, none⟩ = some (.int .u64 (word f 0)) ∧ w.cell? ⟨B, 1, none⟩ = some (.int .u64 (word f 1)) ∧ w.cell? ⟨B, 2, none⟩ = some (.int .u64 (word f 2)) ∧ w.cell? ⟨B, 3, none⟩ = some (.int .u64 (word f 3)) ∧
    w.frozen? ⟨B, 0, none⟩ = false ∧ w.frozen? ⟨B, 1, none⟩ = false ∧ w.frozen? ⟨B, 2, none⟩ = false ∧ w.frozen? ⟨B, 3, none⟩ = false :=
  ⟨cell_of_row w B 0 _ _ _ h, cell_of_row w B 1 _ _ _ h, cell_of_row w B 2 _ _ _ h, cell_of_row w B 3 _ _ _ h,
    frozen_of_row w B 0 _ _ h, frozen_of_row w B 1 _ _ h, frozen_of_row w B 2 _ _ h, frozen_of_row w B 3 _ _ h⟩
theorem SetAt.lt {w : World} {B : Nat} {f : Nat → Bool} (h : SetAt w B f) : B < w.heap.size := by
  rcases Nat.lt_or_ge B w.heap.size with hlt | hge
  · exact hlt
  · unfold SetAt at h
    rw [Array.getElem?_eq_none hge] at h
    cases h
theorem SetAt.below {w w' : World} {B : Nat} {f : Nat → Bool} (h : SetAt w B f) (hb : Below w.heap.size w w') : SetAt w' B f :=
  (hb.block B h.lt).trans h
theorem SetAt.new (w : World) (f : Nat → Bool) : SetAt (w.alloc (.cells #[.int .u64 (word (f) 0), .int .u64 (word (f) 1), .int .u64 (word (f) 2), .int .u64 (word (f) 3)] 32)) w.heap.size f := heap_alloc_new w _
theorem SetAt.stored {w : World} {B : Nat} {f g : Nat → Bool} (h : SetAt w B f) :
    SetAt ((((w.setCell ⟨B, 0, none⟩ (.int .u64 (word g 0))).setCell ⟨B, 1, none⟩ (.int .u64 (word g 1))).setCell ⟨B, 2, none⟩ (.int .u64 (word g 2))).setCell ⟨B, 3, none⟩ (.int .u64 (word g 3))) B g :=
  heap_setCell_same _ B 3 _ _ _ (heap_setCell_same _ B 2 _ _ _ (heap_setCell_same _ B 1 _ _ _ (heap_setCell_same _ B 0 _ _ _ h)))
theorem SetAt.congr {w : World} {B : Nat} {f g : Nat → Bool} (h : SetAt w B f) (e : ∀ n, n < 256 → f n = g n) : SetAt w B g := by
  unfold SetAt at h ⊢
  rw [h, word_ext e 0 (by decide), word_ext e 1 (by decide), word_ext e 2 (by decide), word_ext e 3 (by decide)]

theorem below_cells {B : Nat} {a w : World} (h : Below B a w) (b : Nat) (hb : B ≤ b) (v0 v1 v2 v3 : Value) :
    Below B a ((((w.setCell ⟨b, 0, none⟩ v0).setCell ⟨b, 1, none⟩ v1).setCell ⟨b, 2, none⟩ v2).setCell ⟨b, 3, none⟩ v3) :=
  (((h.setCell hb _).setCell hb _).setCell hb _).setCell hb _
theorem set_other {w : World} {B b : Nat} {f : Nat → Bool} (h : SetAt w B f) (hne : B ≠ b) (v0 v1 v2 v3 : Value) :
    SetAt ((((w.setCell ⟨b, 0, none⟩ v0).setCell ⟨b, 1, none⟩ v1).setCell ⟨b, 2, none⟩ v2).setCell ⟨b, 3, none⟩ v3) B f := by
  unfold SetAt at h ⊢
  rw [heap_setCell_other _ _ _ _ hne, heap_setCell_other _ _ _ _ hne, heap_setCell_other _ _ _ _ hne, heap_setCell_other _ _ _ _ hne, h]

theorem span_step (lo hi : Int) (k : Nat) (h : lo ≤ k ∧ (k : Int) ≤ hi) (n : Nat) : fOr (fUpto (fSpan lo hi) k) (fOne k) n = fUpto (fSpan lo hi) (k + 1) n := by
  simp only [fOr, fUpto, fSpan, fOne]
  rw [Bool.eq_iff_iff]
  simp
  omega
theorem span_skip (lo hi : Int) (k : Nat) (h : ¬ (lo ≤ k ∧ (k : Int) ≤ hi)) (n : Nat) : fUpto (fSpan lo hi) k n = fUpto (fSpan lo hi) (k + 1) n := by
  simp only [fUpto, fSpan]
  rw [Bool.eq_iff_iff]
  simp
  omega
theorem upto_all (f : Nat → Bool) (n : Nat) (h : n < 256) : fUpto f 256 n = f n := by simp [fUpto, h]
theorem upto_none (f : Nat → Bool) (n : Nat) : fUpto f 0 n = fNone n := by simp [fUpto, fNone]

theorem with_nat (f : Nat → Bool) (k : Nat) (w : World) (h : k < 256) :
    Calls Try.prog 25 #[(.agg #[.int .u64 (word (f) 0), .int .u64 (word (f) 1), .int .u64 (word (f) 2), .int .u64 (word (f) 3)]), .int .i64 k] w fun e w' => e = .returned (.agg #[.int .u64 (word (fOr f (fOne k)) 0), .int .u64 (word (fOr f (fOne k)) 1), .int .u64 (word (fOr f (fOne k)) 2), .int .u64 (word (fOr f (fOne k)) 3)]) ∧ Below w.heap.size w w' := by
  have := with_calls f k w (by omega) (by omega)
  rwa [Int.toNat_natCast] at this
theorem zeros (f : Nat → Bool) (hf : ∀ i, word f i = 0) : (#[.int .u64 0, .int .u64 0, .int .u64 0, .int .u64 0] : Array Value) = #[.int .u64 (word (f) 0), .int .u64 (word (f) 1), .int .u64 (word (f) 2), .int .u64 (word (f) 3)] := by
  simp [hf]
theorem zeros_none : (#[.int .u64 0, .int .u64 0, .int .u64 0, .int .u64 0] : Array Value) = #[.int .u64 (word (fNone) 0), .int .u64 (word (fNone) 1), .int .u64 (word (fNone) 2), .int .u64 (word (fNone) 3)] := zeros _ word_none
theorem new2 (w : World) : SetAt ((w.alloc (.cells #[.int .u64 0, .int .u64 0, .int .u64 0, .int .u64 0] 32)).alloc (.cells #[.int .u64 0, .int .u64 0, .int .u64 0, .int .u64 0] 32)) w.heap.size fNone ∧
    SetAt ((w.alloc (.cells #[.int .u64 0, .int .u64 0, .int .u64 0, .int .u64 0] 32)).alloc (.cells #[.int .u64 0, .int .u64 0, .int .u64 0, .int .u64 0] 32)) (w.heap.size + 1) fNone := by
  rw [zeros_none]
  exact ⟨heap_alloc2_old w _ _, heap_alloc2_new w _ _⟩

theorem ret_setAt {fn : Func} {R : Ending → World → Prop} {a : Act} {w : World} {B p : Nat} {f g : Nat → Bool} (h : fn.results = #[.cell p 32]) (hp : a.tmps.getD p undef = .pointer (some ⟨B, 0, none⟩))
    (hd : a.defers = []) (hS : SetAt w B f) (e : ∀ n, n < 256 → f n = g n) (hR : R (.returned (.agg #[.int .u64 (word (g) 0), .int .u64 (word (g) 1), .int .u64 (word (g) 2), .int .u64 (word (g) 3)])) w) : bodyPost Try.prog fn R .ret a w :=
  bodyPost_ret (results_cell_row h _ w B 32 _ (0, 0) _ hp (hS.congr e) Try.underlying32 rfl (by kernel_rfl)) hd hR

set_option maxRecDepth 100000 in
theorem rspan_calls (lo hi : Int) (w : World) :
    Calls Try.prog 19 #[.int .i64 lo, .int .i64 hi] w fun e w' => e = .returned (.agg #[.int .u64 (word (fSpan lo hi) 0), .int .u64 (word (fSpan lo hi) 1), .int .u64 (word (fSpan lo hi) 2), .int .u64 (word (fSpan lo hi) 3)]) ∧ Below w.heap.size w w' := by
  go_enter Try.func19, Try.ntmps19
  go_wp2
  go_loopw [6] (fun i wr => ∃ k : Nat, k ≤ 256 ∧ i = .int .i64 k ∧ SetAt wr w.heap.size fNone ∧ SetAt wr (w.heap.size + 1) (fUpto (fSpan lo hi) k) ∧ Below w.heap.size w wr) (fun i _ => 256 - (intOf i).toNat)
  case atStart =>
    exact ⟨0, by omega, rfl, (new2 w).1, (new2 w).2.congr fun n _ => (upto_none _ n).symm, by go_grown⟩
  case round =>
    obtain ⟨k, hk, rfl, hA, hS, hb⟩ := hrel
    have HS := hidden hS
    have HA := hidden hA
    by_cases hlt : k < 256
    · obtain ⟨c0, c1, c2, c3, f0, f1, f2, f3⟩ := hS.facts
      clear hS hA
      by_cases hin : lo ≤ k ∧ (k : Int) ≤ hi
      · have hin1 := hin.1
        have hin2 := hin.2
        go_wp2_with fail
        refine (with_nat _ _ _ (by omega)).mono ?_
        rintro e w' ⟨rfl, hb1⟩
        have hS' := HS.out.below hb1
        have hA' := HA.out.below hb1
        clear c0 c1 c2 c3 f0 f1 f2 f3
        obtain ⟨c0, c1, c2, c3, f0, f1, f2, f3⟩ := hS'.facts
        have HS' := hidden hS'
        have HA' := hidden hA'
        clear hS' hA'
        go_wp2
        go_roundw
        case rel =>
          exact ⟨k + 1, by omega, by go_num, set_other HA'.out (by omega) _ _ _ _, HS'.out.stored.congr fun n _ => span_step lo hi k hin n,
            below_cells (below_then hb (by have := hb.size; omega) hb1) _ (by omega) _ _ _ _⟩
        case measure => simp [intOf]; omega
      · go_wp2
        all_goals
          refine ⟨⟨k + 1, by omega, by go_num, HA.out, HS.out.congr fun n _ => span_skip lo hi k hin n, hb⟩, by simp [intOf]; omega⟩
    · obtain ⟨c0, c1, c2, c3, f0, f1, f2, f3⟩ := hS.facts
      obtain ⟨d0, d1, d2, d3, g0, g1, g2, g3⟩ := hA.facts
      clear hS hA
      have e : k = 256 := by omega
      have HE := hidden e
      clear e
      go_wp2
      refine ret_setAt Try.results19 rfl rfl HA.out.stored (fun n hn => ?_) ⟨rfl, below_cells hb _ (by omega) _ _ _ _⟩
      rw [HE.out, upto_all _ n hn]
end Go.Proofs.Ytanjpajnciifiaa
