/- SetAll, FaLetOr, put together. -/
import Derived.Test.YthkboclooplpeaaGreatDoorRf15
import Derived.Test.YthkboclooplpeaaGreatDoorRf12
/- Contracts of the unions of a list of sets, and of the reference's Not. -/
namespace Go.Proofs.YthkboclooplpeaaGreatDoor
open Go.RowKit

/-- a slice of sets that reads as a list -/
def Sets (w : World) (a : Option Addr) (len : Nat) (fs : List (Nat → Bool)) : Prop :=
  fs.length = len ∧ (0 < len → ∃ b off, a = some ⟨b, off, none⟩ ∧ b < w.heap.size ∧ ∀ i, i < len → ∀ j, j < 4 → w.cell? ⟨b, off + i * 4 + j, none⟩ = some (.int .u64 (word (fs.getD i fNone) j)))
def fAny (fs : List (Nat → Bool)) (n : Nat) : Bool := fs.any fun f => f n
theorem any_snoc (fs : List (Nat → Bool)) (k : Nat) (h : k < fs.length) (n : Nat) : fOr (fAny (fs.take k)) (fs.getD k fNone) n = fAny (fs.take (k + 1)) n := by
  simp only [fOr, fAny]
  rw [List.take_succ_eq_append_getElem h, List.any_append]
  simp [List.getD_eq_getElem?_getD, h]
theorem any_none (fs : List (Nat → Bool)) (n : Nat) : fNone n = fAny (fs.take 0) n := by simp [fNone, fAny]

theorem SetAt.stored4 {w : World} {B : Nat} {f g : Nat → Bool} (h : SetAt w B f) {v0 v1 v2 v3 : Int} (h0 : v0 = word g 0) (h1 : v1 = word g 1) (h2 : v2 = word g 2) (h3 : v3 = word g 3) :
    SetAt ((((w.setCell ⟨B, 0, none⟩ (.int .u64 v0)).setCell ⟨B, 1, none⟩ (.int .u64 v1)).setCell ⟨B, 2, none⟩ (.int .u64 v2)).setCell ⟨B, 3, none⟩ (.int .u64 v3)) B g := by
  subst h0 h1 h2 h3
  exact h.stored

set_option maxRecDepth 100000 in
theorem all_calls (a : Option Addr) (len cap : Nat) (fs : List (Nat → Bool)) (w : World) (hl : len ≤ 9223372036854775807) (hfs : Sets w a len fs) :
    Calls Tryz.prog 107 #[.slice a len cap] w fun e w' => e = .returned (.agg #[.int .u64 (word (fAny fs) 0), .int .u64 (word (fAny fs) 1), .int .u64 (word (fAny fs) 2), .int .u64 (word (fAny fs) 3)]) ∧ Below w.heap.size w w' := by
  obtain ⟨hn, hp⟩ := hfs
  have HN := hidden hn
  have HP := hidden hp
  have HW := hidden (fun f g => word_or f g)
  clear hn hp
  go_enter Tryz.func107, Tryz.ntmps107
  go_wp2
  go_loopw [9] (fun i wr => ∃ k : Nat, k ≤ len ∧ i = .int .i64 k ∧ SetAt wr w.heap.size fNone ∧ SetAt wr (w.heap.size + 1) (fAny (fs.take k)) ∧ Below w.heap.size w wr) (fun i _ => len - (intOf i).toNat)
  case atStart =>
    exact ⟨0, by omega, rfl, (new2 w).1, (new2 w).2.congr fun n _ => any_none fs n, by go_grown⟩
  case round =>
    obtain ⟨k, hk, rfl, hA, hS, hb⟩ := hrel
    have HS := hidden hS
    have HA := hidden hA
    have l1 := hS.lt
    by_cases hlt : k < len
    · obtain ⟨c0, c1, c2, c3, f0, f1, f2, f3⟩ := hS.facts
      obtain ⟨b, off, ea, hbl, hcell⟩ := HP.out (by omega)
      have e0 := (hb.cell (p := ⟨b, off + k * 4 + 0, none⟩) hbl).trans (hcell k hlt 0 (by decide))
      have e1 := (hb.cell (p := ⟨b, off + k * 4 + 1, none⟩) hbl).trans (hcell k hlt 1 (by decide))
      have e2 := (hb.cell (p := ⟨b, off + k * 4 + 2, none⟩) hbl).trans (hcell k hlt 2 (by decide))
      have e3 := (hb.cell (p := ⟨b, off + k * 4 + 3, none⟩) hbl).trans (hcell k hlt 3 (by decide))
      have e0 : wr.cell? ⟨b, off + k * 4, none⟩ = some (.int .u64 (word (fs.getD k fNone) 0)) := e0
      clear hcell
      subst ea
      generalize hg : fs.getD k fNone = g at *
      have HG := hidden hg
      clear hS hA hg
      go_wp2
      refine wp_loop_rounds 5 ?_
      iterate 4
        rw [rounds_succ]
        go_wp2
        go_region
        go_wp2
      rw [rounds_succ]
      go_wp2
      refine ⟨⟨k + 1, by omega, by go_num, ((set_other HA.out (by omega) _ _ _ _).alloc _).drew.drew.drew.drew, (((HS.out.stored4 (HW.out _ _ 0) (HW.out _ _ 1) (HW.out _ _ 2) (HW.out _ _ 3)).congr fun n _ => ?_).alloc _).drew.drew.drew.drew,
        ((below_cells hb _ (by omega) _ _ _ _).alloc (by simp; omega) _).drew.drew.drew.drew⟩, by simp [intOf]; omega⟩
      rw [← HG.out]
      exact any_snoc fs k (by rw [HN.out]; exact hlt) n
    · have e : k = len := by omega
      have HE := hidden e
      obtain ⟨c0, c1, c2, c3, f0, f1, f2, f3⟩ := hS.facts
      obtain ⟨d0, d1, d2, d3, g0, g1, g2, g3⟩ := hA.facts
      clear hS hA e
      go_wp2
      refine ret_setAt Tryz.results107 rfl rfl HA.out.stored (fun n hn => ?_) ⟨rfl, below_cells hb _ (by omega) _ _ _ _⟩
      rw [HE.out, ← HN.out, List.take_length]

theorem rnot_calls (f : Nat → Bool) (w : World) :
    Calls Tryz.prog 125 #[(.agg #[.int .u64 (word (f) 0), .int .u64 (word (f) 1), .int .u64 (word (f) 2), .int .u64 (word (f) 3)])] w fun e w' => e = .returned (.agg #[.int .u64 (word (fNot f) 0), .int .u64 (word (fNot f) 1), .int .u64 (word (fNot f) 2), .int .u64 (word (fNot f) 3)]) ∧ Below w.heap.size w w' := by
  go_enter Tryz.func125, Tryz.ntmps125
  go_wp2
  go_region_with (first
    | (go_at_call 131; refine (rspan_calls 0 255 _).mono ?_; rintro e w1 ⟨rfl, hb1⟩; have hF1 := ((SetAt.new w f).alloc (.cells #[.int .u64 0, .int .u64 0, .int .u64 0, .int .u64 0] 33)).drew.below hb1; have HN1 := hidden ((SetAt.newNone (w.alloc (.cells #[.int .u64 (word (f) 0), .int .u64 (word (f) 1), .int .u64 (word (f) 2), .int .u64 (word (f) 3)] 33)) (w.heap.size + 1) (by simp)).drew.below hb1); have HB1 := hidden hb1; clear hb1; obtain ⟨c0, c1, c2, c3, f0, f1, f2, f3⟩ := hF1.facts; clear hF1)
    | (go_at_call 92; refine (two_calls 2 (fSpan 0 255) f _ (by simp)).mono ?_; rintro e w2 ⟨rfl, hb2⟩; have hN2 := HN1.out.below hb2; have HB2 := hidden hb2; clear hb2; obtain ⟨d0, d1, d2, d3, g0, g1, g2, g3⟩ := hN2.facts; have HN2 := hidden hN2; clear hN2))
  all_goals
    go_wp2
    refine ret_setAt Tryz.results125 rfl rfl HN2.out.stored (fun n hn => ?_) ⟨rfl, below_cells (below_then (below_then (by go_grown) (by simp; omega) HB1.out) (by have := HB1.out.size; simp at this; omega) HB2.out) _ (by omega) _ _ _ _⟩
    simp [fTwo, fSpan, fNot]
    omega
end Go.Proofs.YthkboclooplpeaaGreatDoor

/- Sets of first bytes and of bytes used, in memory: letters.or. -/
namespace Go.Proofs.YthkboclooplpeaaGreatDoor
open Go.RowKit Go.Lib Go.Joins

def letV (l : Let) : Value := .agg #[.bool l.some, .bool l.null, .int .u64 (word (l.first) 0), .int .u64 (word (l.first) 1), .int .u64 (word (l.first) 2), .int .u64 (word (l.first) 3), .int .u64 (word (l.used) 0), .int .u64 (word (l.used) 1), .int .u64 (word (l.used) 2), .int .u64 (word (l.used) 3)]
/-- block B has these -/
def LetAt (w : World) (B : Nat) (l : Let) : Prop := w.heap[B]? = some (.cells #[.bool l.some, .bool l.null, .int .u64 (word (l.first) 0), .int .u64 (word (l.first) 1), .int .u64 (word (l.first) 2), .int .u64 (word (l.first) 3), .int .u64 (word (l.used) 0), .int .u64 (word (l.used) 1), .int .u64 (word (l.used) 2), .int .u64 (word (l.used) 3)] 66 (0, 0))
theorem LetAt.lt {w : World} {B : Nat} {l : Let} (h : LetAt w B l) : B < w.heap.size := (Array.getElem?_eq_some_iff.1 h).1
theorem LetAt.below {w w' : World} {B : Nat} {l : Let} (h : LetAt w B l) (hb : Below w.heap.size w w') : LetAt w' B l := (hb.block B h.lt).trans h
def LetCells (w : World) (B : Nat) (l : Let) : Prop :=
  w.cell? ⟨B, 0, none⟩ = some (.bool l.some) ∧ w.cell? ⟨B, 1, none⟩ = some (.bool l.null) ∧ w.cell? ⟨B, 2, none⟩ = some (.int .u64 (word l.first 0)) ∧ w.cell? ⟨B, 3, none⟩ = some (.int .u64 (word l.first 1)) ∧ w.cell? ⟨B, 4, none⟩ = some (.int .u64 (word l.first 2)) ∧ w.cell? ⟨B, 5, none⟩ = some (.int .u64 (word l.first 3)) ∧ w.cell? ⟨B, 6, none⟩ = some (.int .u64 (word l.used 0)) ∧ w.cell? ⟨B, 7, none⟩ = some (.int .u64 (word l.used 1)) ∧ w.cell? ⟨B, 8, none⟩ = some (.int .u64 (word l.used 2)) ∧ w.cell? ⟨B, 9, none⟩ = some (.int .u64 (word l.used 3))
theorem LetAt.cells {w : World} {B : Nat} {l : Let} (h : LetAt w B l) : LetCells w B l := by
  have h' : w.heap[B]? = some (.cells #[.bool l.some, .bool l.null, .int .u64 (word (l.first) 0), .int .u64 (word (l.first) 1), .int .u64 (word (l.first) 2), .int .u64 (word (l.first) 3), .int .u64 (word (l.used) 0), .int .u64 (word (l.used) 1), .int .u64 (word (l.used) 2), .int .u64 (word (l.used) 3)] 66 (0, 0)) := h
  exact ⟨cell_of_row w B 0 _ _ _ h', cell_of_row w B 1 _ _ _ h', cell_of_row w B 2 _ _ _ h', cell_of_row w B 3 _ _ _ h', cell_of_row w B 4 _ _ _ h', cell_of_row w B 5 _ _ _ h', cell_of_row w B 6 _ _ _ h', cell_of_row w B 7 _ _ _ h', cell_of_row w B 8 _ _ _ h', cell_of_row w B 9 _ _ _ h'⟩
theorem sets_two (w : World) (f g : Nat → Bool) (t : TypeId) : Sets (w.alloc (.cells #[.int .u64 (word (f) 0), .int .u64 (word (f) 1), .int .u64 (word (f) 2), .int .u64 (word (f) 3), .int .u64 (word (g) 0), .int .u64 (word (g) 1), .int .u64 (word (g) 2), .int .u64 (word (g) 3)] t)) (some ⟨w.heap.size, 0, none⟩) 2 [f, g] := by
  refine ⟨rfl, fun _ => ⟨_, 0, rfl, by simp, fun i hi j hj => ?_⟩⟩
  rw [World.cell?_alloc_at _ _ _ _ rfl]
  match i, hi, j, hj with
  | 0, _, 0, _ | 0, _, 1, _ | 0, _, 2, _ | 0, _, 3, _ | 1, _, 0, _ | 1, _, 1, _ | 1, _, 2, _ | 1, _, 3, _ => rfl
theorem sets_mono {a : Option Addr} {n : Nat} {fs : List (Nat → Bool)} {w w' : World} (h : Sets w a n fs) (hb : Below w.heap.size w w') : Sets w' a n fs := by
  refine ⟨h.1, fun hp => ?_⟩
  obtain ⟨b, off, e, hlt, hc⟩ := h.2 hp
  exact ⟨b, off, e, Nat.lt_of_lt_of_le hlt hb.size, fun i hi j hj => (hb.cell (p := ⟨b, _, none⟩) hlt).trans (hc i hi j hj)⟩
theorem word_zero (i : Nat) : (word fNone i : Int) = 0 := by rw [word_none]; rfl
theorem LetAt.frozen {w : World} {B : Nat} {l : Let} (h : LetAt w B l) (j : Nat) : w.frozen? ⟨B, j, none⟩ = false := frozen_of_row w B j _ _ h
set_option linter.unusedSimpArgs false in
theorem LetAt.stored {w : World} {B : Nat} {k : Let} (h : LetAt w B k) (l : Let) : LetAt ((((((((((w.setCell ⟨B, 0, none⟩ (.bool l.some)).setCell ⟨B, 1, none⟩ (.bool l.null)).setCell ⟨B, 2, none⟩ (.int .u64 (word l.first 0))).setCell ⟨B, 3, none⟩ (.int .u64 (word l.first 1))).setCell ⟨B, 4, none⟩ (.int .u64 (word l.first 2))).setCell ⟨B, 5, none⟩ (.int .u64 (word l.first 3))).setCell ⟨B, 6, none⟩ (.int .u64 (word l.used 0))).setCell ⟨B, 7, none⟩ (.int .u64 (word l.used 1))).setCell ⟨B, 8, none⟩ (.int .u64 (word l.used 2))).setCell ⟨B, 9, none⟩ (.int .u64 (word l.used 3))) B l := by
  have h0 : w.heap[B]? = some (.cells #[.bool k.some, .bool k.null, .int .u64 (word (k.first) 0), .int .u64 (word (k.first) 1), .int .u64 (word (k.first) 2), .int .u64 (word (k.first) 3), .int .u64 (word (k.used) 0), .int .u64 (word (k.used) 1), .int .u64 (word (k.used) 2), .int .u64 (word (k.used) 3)] 66 (0, 0)) := h
  have h1 := heap_setCell_same _ B 0 _ _ (.bool l.some) h0
  simp only [List.setIfInBounds_toArray, List.set_cons_zero, List.set_cons_succ] at h1
  have h2 := heap_setCell_same _ B 1 _ _ (.bool l.null) h1
  simp only [List.setIfInBounds_toArray, List.set_cons_zero, List.set_cons_succ] at h2
  have h3 := heap_setCell_same _ B 2 _ _ (.int .u64 (word l.first 0)) h2
  simp only [List.setIfInBounds_toArray, List.set_cons_zero, List.set_cons_succ] at h3
  have h4 := heap_setCell_same _ B 3 _ _ (.int .u64 (word l.first 1)) h3
  simp only [List.setIfInBounds_toArray, List.set_cons_zero, List.set_cons_succ] at h4
  have h5 := heap_setCell_same _ B 4 _ _ (.int .u64 (word l.first 2)) h4
  simp only [List.setIfInBounds_toArray, List.set_cons_zero, List.set_cons_succ] at h5
  have h6 := heap_setCell_same _ B 5 _ _ (.int .u64 (word l.first 3)) h5
  simp only [List.setIfInBounds_toArray, List.set_cons_zero, List.set_cons_succ] at h6
  have h7 := heap_setCell_same _ B 6 _ _ (.int .u64 (word l.used 0)) h6
  simp only [List.setIfInBounds_toArray, List.set_cons_zero, List.set_cons_succ] at h7
  have h8 := heap_setCell_same _ B 7 _ _ (.int .u64 (word l.used 1)) h7
  simp only [List.setIfInBounds_toArray, List.set_cons_zero, List.set_cons_succ] at h8
  have h9 := heap_setCell_same _ B 8 _ _ (.int .u64 (word l.used 2)) h8
  simp only [List.setIfInBounds_toArray, List.set_cons_zero, List.set_cons_succ] at h9
  have h10 := heap_setCell_same _ B 9 _ _ (.int .u64 (word l.used 3)) h9
  simp only [List.setIfInBounds_toArray, List.set_cons_zero, List.set_cons_succ] at h10
  exact h10
theorem let_frame {N : Nat} {w0 w : World} {B : Nat} (h : Below N w0 w) (hB : N ≤ B) (l : Let) : Below N w0 ((((((((((w.setCell ⟨B, 0, none⟩ (.bool l.some)).setCell ⟨B, 1, none⟩ (.bool l.null)).setCell ⟨B, 2, none⟩ (.int .u64 (word l.first 0))).setCell ⟨B, 3, none⟩ (.int .u64 (word l.first 1))).setCell ⟨B, 4, none⟩ (.int .u64 (word l.first 2))).setCell ⟨B, 5, none⟩ (.int .u64 (word l.first 3))).setCell ⟨B, 6, none⟩ (.int .u64 (word l.used 0))).setCell ⟨B, 7, none⟩ (.int .u64 (word l.used 1))).setCell ⟨B, 8, none⟩ (.int .u64 (word l.used 2))).setCell ⟨B, 9, none⟩ (.int .u64 (word l.used 3))) := ((((((((((h.setCell (p := ⟨B, 0, none⟩) hB _).setCell (p := ⟨B, 1, none⟩) hB _).setCell (p := ⟨B, 2, none⟩) hB _).setCell (p := ⟨B, 3, none⟩) hB _).setCell (p := ⟨B, 4, none⟩) hB _).setCell (p := ⟨B, 5, none⟩) hB _).setCell (p := ⟨B, 6, none⟩) hB _).setCell (p := ⟨B, 7, none⟩) hB _).setCell (p := ⟨B, 8, none⟩) hB _).setCell (p := ⟨B, 9, none⟩) hB _)
theorem ret_let {fn : Func} {R : Ending → World → Prop} {a : Act} {w : World} {B p : Nat} {l : Let} (h : fn.results = #[.cell p 66]) (hp : a.tmps.getD p undef = .pointer (some ⟨B, 0, none⟩))
    (hd : a.defers = []) (hS : LetAt w B l) (hR : R (.returned (letV l)) w) : bodyPost Tryz.prog fn R .ret a w :=
  bodyPost_ret (results_cell_row h _ w B 66 _ (0, 0) _ hp hS Tryz.underlying66 rfl (by kernel_rfl)) hd hR
/-- what stays while letters.or goes on -/
structure Wor (w : World) (a b : Let) (wr : World) : Prop where
  one : LetAt wr w.heap.size a
  two : LetAt wr (w.heap.size + 1) b
  out : ∃ l, LetAt wr (w.heap.size + 2) l
  frame : Below w.heap.size w wr
theorem Wor.below {w wr w' : World} {a b : Let} (h : Wor w a b wr) (hb : Below wr.heap.size wr w') : Wor w a b w' := ⟨h.one.below hb, h.two.below hb, h.out.imp fun _ h => h.below hb, below_then h.frame h.frame.size hb⟩
theorem Wor.cells {w wr : World} {a b : Let} (h : Wor w a b wr) : LetCells wr w.heap.size a ∧ LetCells wr (w.heap.size + 1) b := ⟨h.one.cells, h.two.cells⟩
def Lor (w : World) (a b : Let) : List (Value → World → Prop) := [
  Is (.pointer (some ⟨w.heap.size, 0, none⟩)), Is (.bool a.some), Is (.bool a.some), fun v _ => a.some = false → v = .pointer (some ⟨w.heap.size + 1, 0, none⟩), fun v _ => a.some = false → v = .bool b.some, Is (.bool (a.some || b.some)), Is (.pointer (some ⟨w.heap.size, 1, none⟩)), Is (.bool a.null), Is (.bool a.null), fun v _ => a.null = false → v = .pointer (some ⟨w.heap.size + 1, 1, none⟩), fun v _ => a.null = false → v = .bool b.null, Is (.bool (a.null || b.null)), Is (.pointer (some ⟨w.heap.size, 2, none⟩)), Is (.agg #[.int .u64 (word (a.first) 0), .int .u64 (word (a.first) 1), .int .u64 (word (a.first) 2), .int .u64 (word (a.first) 3)]), Is (.pointer (some ⟨w.heap.size + 1, 2, none⟩)), Is (.agg #[.int .u64 (word (b.first) 0), .int .u64 (word (b.first) 1), .int .u64 (word (b.first) 2), .int .u64 (word (b.first) 3)]), fun v w => ∃ ad, v = .slice ad 2 2 ∧ Sets w ad 2 [a.first, b.first], Is (.agg #[.int .u64 (word (fAny [a.first, b.first]) 0), .int .u64 (word (fAny [a.first, b.first]) 1), .int .u64 (word (fAny [a.first, b.first]) 2), .int .u64 (word (fAny [a.first, b.first]) 3)]), Is (.pointer (some ⟨w.heap.size, 6, none⟩)), Is (.agg #[.int .u64 (word (a.used) 0), .int .u64 (word (a.used) 1), .int .u64 (word (a.used) 2), .int .u64 (word (a.used) 3)]), Is (.pointer (some ⟨w.heap.size + 1, 6, none⟩)), Is (.agg #[.int .u64 (word (b.used) 0), .int .u64 (word (b.used) 1), .int .u64 (word (b.used) 2), .int .u64 (word (b.used) 3)]), fun v w => ∃ ad, v = .slice ad 2 2 ∧ Sets w ad 2 [a.used, b.used], Is (.agg #[.int .u64 (word (fAny [a.used, b.used]) 0), .int .u64 (word (fAny [a.used, b.used]) 1), .int .u64 (word (fAny [a.used, b.used]) 2), .int .u64 (word (fAny [a.used, b.used]) 3)]), Is (.agg #[.bool (a.some || b.some), .bool (a.null || b.null), .int .u64 (word (fAny [a.first, b.first]) 0), .int .u64 (word (fAny [a.first, b.first]) 1), .int .u64 (word (fAny [a.first, b.first]) 2), .int .u64 (word (fAny [a.first, b.first]) 3), .int .u64 (word (fAny [a.used, b.used]) 0), .int .u64 (word (fAny [a.used, b.used]) 1), .int .u64 (word (fAny [a.used, b.used]) 2), .int .u64 (word (fAny [a.used, b.used]) 3)])]
attribute [local go_sem] evalR_tmp evalR_const evalR_global evalR_func
set_option maxHeartbeats 8000000 in
set_option maxRecDepth 100000 in
theorem letOr_calls (a b : Let) (w : World) : Calls Tryz.prog 89 #[letV a, letV b] w fun e w' => e = .returned (letV ⟨a.some || b.some, a.null || b.null, fAny [a.first, b.first], fAny [a.used, b.used]⟩) ∧ Below w.heap.size w w' := by
  unfold letV
  go_enter Tryz.func89, Tryz.ntmps89
  go_wp2
  refine wp_region_stepsL 25 (typ (Lor w a b)) (Wor w a b) (by kernel_rfl) (by kernel_rfl) (by kernel_rfl) (by kernel_rfl) (by kernel_rfl) (by kernel_rfl) ?mono ?start ?step ?last
  case mono =>
    refine typ_mono ?_
    simp only [Lor, List.forall_mem_cons]
    repeat' (first | exact is_mono _ | (intro p hp; cases hp; done) | exact (fun v w w' h _ => h) | refine And.intro ?_ ?_)
    all_goals
      rintro v w w' ⟨ad, rfl, h⟩ hb
      exact ⟨ad, rfl, sets_mono h hb⟩
  case start =>
    have h1 : LetAt (w.alloc (.cells #[.bool a.some, .bool a.null, .int .u64 (word (a.first) 0), .int .u64 (word (a.first) 1), .int .u64 (word (a.first) 2), .int .u64 (word (a.first) 3), .int .u64 (word (a.used) 0), .int .u64 (word (a.used) 1), .int .u64 (word (a.used) 2), .int .u64 (word (a.used) 3)] 66)) w.heap.size a := heap_alloc_new w _
    have b1 := (Below.refl w.heap.size w).alloc (Nat.le_refl _) (.cells #[.bool a.some, .bool a.null, .int .u64 (word (a.first) 0), .int .u64 (word (a.first) 1), .int .u64 (word (a.first) 2), .int .u64 (word (a.first) 3), .int .u64 (word (a.used) 0), .int .u64 (word (a.used) 1), .int .u64 (word (a.used) 2), .int .u64 (word (a.used) 3)] 66)
    have h2 : LetAt ((w.alloc (.cells #[.bool a.some, .bool a.null, .int .u64 (word (a.first) 0), .int .u64 (word (a.first) 1), .int .u64 (word (a.first) 2), .int .u64 (word (a.first) 3), .int .u64 (word (a.used) 0), .int .u64 (word (a.used) 1), .int .u64 (word (a.used) 2), .int .u64 (word (a.used) 3)] 66)).alloc (.cells #[.bool b.some, .bool b.null, .int .u64 (word (b.first) 0), .int .u64 (word (b.first) 1), .int .u64 (word (b.first) 2), .int .u64 (word (b.first) 3), .int .u64 (word (b.used) 0), .int .u64 (word (b.used) 1), .int .u64 (word (b.used) 2), .int .u64 (word (b.used) 3)] 66)) (w.heap.size + 1) b := heap_alloc2_new w _ _
    exact ⟨((h1.below ((Below.refl _ _).alloc (Nat.le_refl _) _)).below ((Below.refl _ _).alloc (Nat.le_refl _) _)).below (Below.refl _ _).drew, (h2.below ((Below.refl _ _).alloc (Nat.le_refl _) _)).below (Below.refl _ _).drew, ⟨⟨false, false, fNone, fNone⟩, by
      have h3 := heap_alloc_new ((w.alloc (.cells #[.bool a.some, .bool a.null, .int .u64 (word (a.first) 0), .int .u64 (word (a.first) 1), .int .u64 (word (a.first) 2), .int .u64 (word (a.first) 3), .int .u64 (word (a.used) 0), .int .u64 (word (a.used) 1), .int .u64 (word (a.used) 2), .int .u64 (word (a.used) 3)] 66)).alloc (.cells #[.bool b.some, .bool b.null, .int .u64 (word (b.first) 0), .int .u64 (word (b.first) 1), .int .u64 (word (b.first) 2), .int .u64 (word (b.first) 3), .int .u64 (word (b.used) 0), .int .u64 (word (b.used) 1), .int .u64 (word (b.used) 2), .int .u64 (word (b.used) 3)] 66)) (.cells #[.bool false, .bool false, .int .u64 0, .int .u64 0, .int .u64 0, .int .u64 0, .int .u64 0, .int .u64 0, .int .u64 0, .int .u64 0] 66)
      have hs : ((w.alloc (.cells #[.bool a.some, .bool a.null, .int .u64 (word (a.first) 0), .int .u64 (word (a.first) 1), .int .u64 (word (a.first) 2), .int .u64 (word (a.first) 3), .int .u64 (word (a.used) 0), .int .u64 (word (a.used) 1), .int .u64 (word (a.used) 2), .int .u64 (word (a.used) 3)] 66)).alloc (.cells #[.bool b.some, .bool b.null, .int .u64 (word (b.first) 0), .int .u64 (word (b.first) 1), .int .u64 (word (b.first) 2), .int .u64 (word (b.first) 3), .int .u64 (word (b.used) 0), .int .u64 (word (b.used) 1), .int .u64 (word (b.used) 2), .int .u64 (word (b.used) 3)] 66)).heap.size = w.heap.size + 2 := by simp
      rw [hs] at h3
      unfold LetAt
      simp only [word_zero]
      exact h3⟩, (((b1.alloc (by simp) _).alloc (by simp; omega) _).drew)⟩
  case last =>
    intro a1 w1 hs hv hW
    have h4 : a1.tmps.getD 4 undef = .pointer (some ⟨w.heap.size + 2, 0, none⟩) := hs.slot 4 (by kernel_rfl)
    have h29 : a1.tmps.getD 29 undef = (.agg #[.bool (a.some || b.some), .bool (a.null || b.null), .int .u64 (word (fAny [a.first, b.first]) 0), .int .u64 (word (fAny [a.first, b.first]) 1), .int .u64 (word (fAny [a.first, b.first]) 2), .int .u64 (word (fAny [a.first, b.first]) 3), .int .u64 (word (fAny [a.used, b.used]) 0), .int .u64 (word (fAny [a.used, b.used]) 1), .int .u64 (word (fAny [a.used, b.used]) 2), .int .u64 (word (fAny [a.used, b.used]) 3)]) := hv 24 29 (by decide) (by kernel_rfl)
    have hd := hs.defers
    obtain ⟨l, hl⟩ := hW.out
    have HL := hidden hl
    have HF := hidden hW.frame
    obtain ⟨c0, c1, c2, c3, c4, c5, c6, c7, c8, c9⟩ := hl.cells
    have f0 := hl.frozen 0
    have f1 := hl.frozen 1
    have f2 := hl.frozen 2
    have f3 := hl.frozen 3
    have f4 := hl.frozen 4
    have f5 := hl.frozen 5
    have f6 := hl.frozen 6
    have f7 := hl.frozen 7
    have f8 := hl.frozen 8
    have f9 := hl.frozen 9
    clear hl hs hv hW
    refine wpOp_of_list rfl rfl ?_
    go_wp2
    exact ret_let Tryz.results89 h4 hd (LetAt.stored HL.out ⟨a.some || b.some, a.null || b.null, fAny [a.first, b.first], fAny [a.used, b.used]⟩) ⟨rfl, let_frame HF.out (Nat.le_add_right _ _) ⟨a.some || b.some, a.null || b.null, fAny [a.first, b.first], fAny [a.used, b.used]⟩⟩
  case step =>
    refine ⟨?_, ?_, ?_, ?_, ?_, ?_, ?_, ?_, ?_, ?_, ?_, ?_, ?_, ?_, ?_, ?_, ?_, ?_, ?_, ?_, ?_, ?_, ?_, ?_, ?_, trivial⟩
    · change StepOk _ _ _ _ _ _ _
      intro ρ w1 hF hW
      have HW := hidden hW
      clear hW
      have e2 : ρ 2 = .pointer (some ⟨w.heap.size, 0, none⟩) := hF 2 (by decide)
      clear hF
      unfold Does
      go_simp
      exact ⟨rfl, HW.out, Below.refl _ _⟩
    · change StepOk _ _ _ _ _ _ _
      intro ρ w1 hF hW
      have HW := hidden hW
      clear hW
      have e5 : ρ 5 = .pointer (some ⟨w.heap.size, 0, none⟩) := hF 5 (by decide)
      clear hF
      obtain ⟨⟨c0, c1, c2, c3, c4, c5, c6, c7, c8, c9⟩, d0, d1, d2, d3, d4, d5, d6, d7, d8, d9⟩ := HW.out.cells
      unfold Does
      go_simp
      exact ⟨rfl, HW.out, Below.refl _ _⟩
    · change StepOk _ _ _ _ _ _ _
      intro ρ w1 hF hW
      have HW := hidden hW
      clear hW
      have e6 : ρ 6 = .bool a.some := hF 6 (by decide)
      clear hF
      unfold Does
      go_simp
      exact ⟨rfl, HW.out, Below.refl _ _⟩
    · refine ⟨a.some, fun v w h => h, fun hgx => ?_, fun hgx w => ?_⟩
      rotate_left
      · intro hg2
        exact absurd hg2 hgx
      change StepOk _ _ _ _ _ _ _
      intro ρ w1 hF hW
      have HW := hidden hW
      clear hW
      have e3 : ρ 3 = .pointer (some ⟨w.heap.size + 1, 0, none⟩) := hF 3 (by decide)
      clear hF
      unfold Does
      go_simp
      exact ⟨fun _ => rfl, HW.out, Below.refl _ _⟩
    · refine ⟨a.some, fun v w h => h, fun hgx => ?_, fun hgx w => ?_⟩
      rotate_left
      · intro hg2
        exact absurd hg2 hgx
      change StepOk _ _ _ _ _ _ _
      intro ρ w1 hF hW
      have HW := hidden hW
      clear hW
      have hG8 := hF 8 (by decide)
      clear hF
      obtain ⟨⟨c0, c1, c2, c3, c4, c5, c6, c7, c8, c9⟩, d0, d1, d2, d3, d4, d5, d6, d7, d8, d9⟩ := HW.out.cells
      have e8 : ρ 8 = _ := hG8 hgx
      clear hG8
      unfold Does
      go_simp
      exact ⟨fun _ => rfl, HW.out, Below.refl _ _⟩
    · change StepOk _ _ _ _ _ _ _
      intro ρ w1 hF hW
      have HW := hidden hW
      clear hW
      have e7 : ρ 7 = .bool a.some := hF 7 (by decide)
      have hG9 := hF 9 (by decide)
      clear hF
      rcases Bool.eq_false_or_eq_true (a.some) with hx | hx
      · have ex : ρ 7 = .bool true := by rw [e7, hx]
        clear e7
        skip
        clear hG9
        unfold Does
        go_simp
        exact ⟨show Value.bool _ = Value.bool (a.some || b.some) from by rw [hx]; rfl, HW.out, Below.refl _ _⟩
      · have ex : ρ 7 = .bool false := by rw [e7, hx]
        clear e7
        have ey := hG9 hx
        clear hG9
        have ey : ρ 9 = .bool (b.some) := ey
        unfold Does
        go_simp
        exact ⟨show Value.bool _ = Value.bool (a.some || b.some) from by rw [hx]; rfl, HW.out, Below.refl _ _⟩
    · change StepOk _ _ _ _ _ _ _
      intro ρ w1 hF hW
      have HW := hidden hW
      clear hW
      have e2 : ρ 2 = .pointer (some ⟨w.heap.size, 0, none⟩) := hF 2 (by decide)
      clear hF
      unfold Does
      go_simp
      exact ⟨rfl, HW.out, Below.refl _ _⟩
    · change StepOk _ _ _ _ _ _ _
      intro ρ w1 hF hW
      have HW := hidden hW
      clear hW
      have e11 : ρ 11 = .pointer (some ⟨w.heap.size, 1, none⟩) := hF 11 (by decide)
      clear hF
      obtain ⟨⟨c0, c1, c2, c3, c4, c5, c6, c7, c8, c9⟩, d0, d1, d2, d3, d4, d5, d6, d7, d8, d9⟩ := HW.out.cells
      unfold Does
      go_simp
      exact ⟨rfl, HW.out, Below.refl _ _⟩
    · change StepOk _ _ _ _ _ _ _
      intro ρ w1 hF hW
      have HW := hidden hW
      clear hW
      have e12 : ρ 12 = .bool a.null := hF 12 (by decide)
      clear hF
      unfold Does
      go_simp
      exact ⟨rfl, HW.out, Below.refl _ _⟩
    · refine ⟨a.null, fun v w h => h, fun hgx => ?_, fun hgx w => ?_⟩
      rotate_left
      · intro hg2
        exact absurd hg2 hgx
      change StepOk _ _ _ _ _ _ _
      intro ρ w1 hF hW
      have HW := hidden hW
      clear hW
      have e3 : ρ 3 = .pointer (some ⟨w.heap.size + 1, 0, none⟩) := hF 3 (by decide)
      clear hF
      unfold Does
      go_simp
      exact ⟨fun _ => rfl, HW.out, Below.refl _ _⟩
    · refine ⟨a.null, fun v w h => h, fun hgx => ?_, fun hgx w => ?_⟩
      rotate_left
      · intro hg2
        exact absurd hg2 hgx
      change StepOk _ _ _ _ _ _ _
      intro ρ w1 hF hW
      have HW := hidden hW
      clear hW
      have hG14 := hF 14 (by decide)
      clear hF
      obtain ⟨⟨c0, c1, c2, c3, c4, c5, c6, c7, c8, c9⟩, d0, d1, d2, d3, d4, d5, d6, d7, d8, d9⟩ := HW.out.cells
      have e14 : ρ 14 = _ := hG14 hgx
      clear hG14
      unfold Does
      go_simp
      exact ⟨fun _ => rfl, HW.out, Below.refl _ _⟩
    · change StepOk _ _ _ _ _ _ _
      intro ρ w1 hF hW
      have HW := hidden hW
      clear hW
      have e13 : ρ 13 = .bool a.null := hF 13 (by decide)
      have hG15 := hF 15 (by decide)
      clear hF
      rcases Bool.eq_false_or_eq_true (a.null) with hx | hx
      · have ex : ρ 13 = .bool true := by rw [e13, hx]
        clear e13
        skip
        clear hG15
        unfold Does
        go_simp
        exact ⟨show Value.bool _ = Value.bool (a.null || b.null) from by rw [hx]; rfl, HW.out, Below.refl _ _⟩
      · have ex : ρ 13 = .bool false := by rw [e13, hx]
        clear e13
        have ey := hG15 hx
        clear hG15
        have ey : ρ 15 = .bool (b.null) := ey
        unfold Does
        go_simp
        exact ⟨show Value.bool _ = Value.bool (a.null || b.null) from by rw [hx]; rfl, HW.out, Below.refl _ _⟩
    · change StepOk _ _ _ _ _ _ _
      intro ρ w1 hF hW
      have HW := hidden hW
      clear hW
      have e2 : ρ 2 = .pointer (some ⟨w.heap.size, 0, none⟩) := hF 2 (by decide)
      clear hF
      unfold Does
      go_simp
      exact ⟨rfl, HW.out, Below.refl _ _⟩
    · change StepOk _ _ _ _ _ _ _
      intro ρ w1 hF hW
      have HW := hidden hW
      clear hW
      have e17 : ρ 17 = .pointer (some ⟨w.heap.size, 2, none⟩) := hF 17 (by decide)
      clear hF
      obtain ⟨⟨c0, c1, c2, c3, c4, c5, c6, c7, c8, c9⟩, d0, d1, d2, d3, d4, d5, d6, d7, d8, d9⟩ := HW.out.cells
      unfold Does
      go_simp
      exact ⟨rfl, HW.out, Below.refl _ _⟩
    · change StepOk _ _ _ _ _ _ _
      intro ρ w1 hF hW
      have HW := hidden hW
      clear hW
      have e3 : ρ 3 = .pointer (some ⟨w.heap.size + 1, 0, none⟩) := hF 3 (by decide)
      clear hF
      unfold Does
      go_simp
      exact ⟨rfl, HW.out, Below.refl _ _⟩
    · change StepOk _ _ _ _ _ _ _
      intro ρ w1 hF hW
      have HW := hidden hW
      clear hW
      have e19 : ρ 19 = .pointer (some ⟨w.heap.size + 1, 2, none⟩) := hF 19 (by decide)
      clear hF
      obtain ⟨⟨c0, c1, c2, c3, c4, c5, c6, c7, c8, c9⟩, d0, d1, d2, d3, d4, d5, d6, d7, d8, d9⟩ := HW.out.cells
      unfold Does
      go_simp
      exact ⟨rfl, HW.out, Below.refl _ _⟩
    · change StepOk _ _ _ _ _ _ _
      intro ρ w1 hF hW
      have HW := hidden hW
      clear hW
      have e18 : ρ 18 = (.agg #[.int .u64 (word (a.first) 0), .int .u64 (word (a.first) 1), .int .u64 (word (a.first) 2), .int .u64 (word (a.first) 3)]) := hF 18 (by decide)
      have e20 : ρ 20 = (.agg #[.int .u64 (word (b.first) 0), .int .u64 (word (b.first) 1), .int .u64 (word (b.first) 2), .int .u64 (word (b.first) 3)]) := hF 20 (by decide)
      clear hF
      unfold Does
      go_simp
      exact ⟨⟨_, rfl, sets_two w1 _ _ _⟩, Wor.below HW.out ((Below.refl _ _).alloc (Nat.le_refl _) _), (Below.refl _ _).alloc (Nat.le_refl _) _⟩
    · change StepOk _ _ _ _ _ _ _
      intro ρ w1 hF hW
      have HW := hidden hW
      clear hW
      obtain ⟨ad, e21, hs⟩ : ∃ ad, ρ 21 = .slice ad 2 2 ∧ Sets w1 ad 2 [a.first, b.first] := hF 21 (by decide)
      clear hF
      unfold Does
      go_simp
      refine (all_calls _ 2 2 [a.first, b.first] _ (by omega) hs).mono ?_
      rintro e w2 ⟨rfl, hb⟩
      exact ⟨_, rfl, rfl, Wor.below HW.out hb, hb⟩
    · change StepOk _ _ _ _ _ _ _
      intro ρ w1 hF hW
      have HW := hidden hW
      clear hW
      have e2 : ρ 2 = .pointer (some ⟨w.heap.size, 0, none⟩) := hF 2 (by decide)
      clear hF
      unfold Does
      go_simp
      exact ⟨rfl, HW.out, Below.refl _ _⟩
    · change StepOk _ _ _ _ _ _ _
      intro ρ w1 hF hW
      have HW := hidden hW
      clear hW
      have e23 : ρ 23 = .pointer (some ⟨w.heap.size, 6, none⟩) := hF 23 (by decide)
      clear hF
      obtain ⟨⟨c0, c1, c2, c3, c4, c5, c6, c7, c8, c9⟩, d0, d1, d2, d3, d4, d5, d6, d7, d8, d9⟩ := HW.out.cells
      unfold Does
      go_simp
      exact ⟨rfl, HW.out, Below.refl _ _⟩
    · change StepOk _ _ _ _ _ _ _
      intro ρ w1 hF hW
      have HW := hidden hW
      clear hW
      have e3 : ρ 3 = .pointer (some ⟨w.heap.size + 1, 0, none⟩) := hF 3 (by decide)
      clear hF
      unfold Does
      go_simp
      exact ⟨rfl, HW.out, Below.refl _ _⟩
    · change StepOk _ _ _ _ _ _ _
      intro ρ w1 hF hW
      have HW := hidden hW
      clear hW
      have e25 : ρ 25 = .pointer (some ⟨w.heap.size + 1, 6, none⟩) := hF 25 (by decide)
      clear hF
      obtain ⟨⟨c0, c1, c2, c3, c4, c5, c6, c7, c8, c9⟩, d0, d1, d2, d3, d4, d5, d6, d7, d8, d9⟩ := HW.out.cells
      unfold Does
      go_simp
      exact ⟨rfl, HW.out, Below.refl _ _⟩
    · change StepOk _ _ _ _ _ _ _
      intro ρ w1 hF hW
      have HW := hidden hW
      clear hW
      have e24 : ρ 24 = (.agg #[.int .u64 (word (a.used) 0), .int .u64 (word (a.used) 1), .int .u64 (word (a.used) 2), .int .u64 (word (a.used) 3)]) := hF 24 (by decide)
      have e26 : ρ 26 = (.agg #[.int .u64 (word (b.used) 0), .int .u64 (word (b.used) 1), .int .u64 (word (b.used) 2), .int .u64 (word (b.used) 3)]) := hF 26 (by decide)
      clear hF
      unfold Does
      go_simp
      exact ⟨⟨_, rfl, sets_two w1 _ _ _⟩, Wor.below HW.out ((Below.refl _ _).alloc (Nat.le_refl _) _), (Below.refl _ _).alloc (Nat.le_refl _) _⟩
    · change StepOk _ _ _ _ _ _ _
      intro ρ w1 hF hW
      have HW := hidden hW
      clear hW
      obtain ⟨ad, e27, hs⟩ : ∃ ad, ρ 27 = .slice ad 2 2 ∧ Sets w1 ad 2 [a.used, b.used] := hF 27 (by decide)
      clear hF
      unfold Does
      go_simp
      refine (all_calls _ 2 2 [a.used, b.used] _ (by omega) hs).mono ?_
      rintro e w2 ⟨rfl, hb⟩
      exact ⟨_, rfl, rfl, Wor.below HW.out hb, hb⟩
    · change StepOk _ _ _ _ _ _ _
      intro ρ w1 hF hW
      have HW := hidden hW
      clear hW
      have e10 : ρ 10 = .bool (a.some || b.some) := hF 10 (by decide)
      have e16 : ρ 16 = .bool (a.null || b.null) := hF 16 (by decide)
      have e22 : ρ 22 = (.agg #[.int .u64 (word (fAny [a.first, b.first]) 0), .int .u64 (word (fAny [a.first, b.first]) 1), .int .u64 (word (fAny [a.first, b.first]) 2), .int .u64 (word (fAny [a.first, b.first]) 3)]) := hF 22 (by decide)
      have e28 : ρ 28 = (.agg #[.int .u64 (word (fAny [a.used, b.used]) 0), .int .u64 (word (fAny [a.used, b.used]) 1), .int .u64 (word (fAny [a.used, b.used]) 2), .int .u64 (word (fAny [a.used, b.used]) 3)]) := hF 28 (by decide)
      clear hF
      unfold Does
      go_simp
      exact ⟨rfl, HW.out, Below.refl _ _⟩
end Go.Proofs.YthkboclooplpeaaGreatDoor
