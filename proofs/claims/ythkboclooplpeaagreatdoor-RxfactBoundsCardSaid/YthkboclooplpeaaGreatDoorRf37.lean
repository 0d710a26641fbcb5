/- FaSee, FaSays, put together. -/
import Derived.Test.YthkboclooplpeaaGreatDoorRf32
import Derived.Test.YthkboclooplpeaaGreatDoorRf36
/- The closures that see ends: what Says keeps (is the last end the text's?). -/
namespace Go.Proofs.YthkboclooplpeaaGreatDoor
open Go.RowKit Go.Lib Go.Joins
attribute [local go_sem] evalR_tmp evalR_const evalR_global evalR_func
set_option maxRecDepth 100000 in
theorem says1_calls {w : World} {c1 c2 k : Nat} {s : ByteArray} {b : Bool} (h1 : w.heap[c1]? = some (.cells #[.string s] 9 (0, 0))) (h2 : w.heap[c2]? = some (.cells #[.bool b] 4 (0, 0))) :
    Calls Tryz.prog 33 #[.int .i64 (k : Int), .pointer (some ⟨c1, 0, none⟩), .pointer (some ⟨c2, 0, none⟩)] w fun e w' => e = .returned (.tuple #[]) ∧ w' = w.setCell ⟨c2, 0, none⟩ (.bool (k == s.size)) := by
  have k1 := cell_of_row w c1 0 _ _ _ h1
  have k2 := cell_of_row w c2 0 _ _ _ h2
  have f2 := frozen_of_row w c2 0 _ _ h2
  have he : (((k : Int) == (s.size : Int)) : Bool) = (k == s.size) := by
    rw [Bool.eq_iff_iff, beq_iff_eq, beq_iff_eq]
    omega
  clear h1 h2
  go_enter Tryz.func33, Tryz.ntmps33
  go_wp2
  refine bodyPost_end (results_none rfl _ _ _) rfl ?_
  refine ⟨rfl, ?_⟩
  first | rfl | (congr 2)
/-- what Says keeps while ends are seen -/
def SayJ (w0 : World) (c1 c2 : Nat) (s : ByteArray) (D : List Nat) (w : World) : Prop :=
  w.heap[c1]? = some (.cells #[.string s] 9 (0, 0)) ∧ w.heap[c2]? = some (.cells #[.bool (lastIs D s.size)] 4 (0, 0)) ∧ Below w0.heap.size w0 w ∧ w0.heap.size ≤ c2
theorem SayJ.below {w0 w w' : World} {c1 c2 : Nat} {s : ByteArray} {D : List Nat} (h : SayJ w0 c1 c2 s D w) (hb : Below w.heap.size w w') : SayJ w0 c1 c2 s D w' :=
  ⟨(hb.block _ (Array.getElem?_eq_some_iff.1 h.1).1).trans h.1, (hb.block _ (Array.getElem?_eq_some_iff.1 h.2.1).1).trans h.2.1, below_then h.2.2.1 h.2.2.1.size hb, h.2.2.2⟩
theorem SayJ.seen {w0 w : World} {c1 c2 k : Nat} {s : ByteArray} {D : List Nat} (h : SayJ w0 c1 c2 s D w) (hne : c1 ≠ c2) : SayJ w0 c1 c2 s (D ++ [k]) (w.setCell ⟨c2, 0, none⟩ (.bool (k == s.size))) ∧ Sv w (w.setCell ⟨c2, 0, none⟩ (.bool (k == s.size))) := by
  have hl : lastIs (D ++ [k]) s.size = (k == s.size) := by simp [lastIs]
  have hg := gb_set (w := w) c2 0 (.bool (k == s.size))
  refine ⟨⟨(heap_setCell_other _ _ _ _ hne).trans h.1, by rw [hl]; exact heap_setCell_same _ c2 0 _ _ _ h.2.1, h.2.2.1.setCell (p := ⟨c2, 0, none⟩) h.2.2.2 _, h.2.2.2⟩, hg.size, fun i cs t fr hi ht => ?_, fun ht j hj => ?_⟩
  · refine heap_setCell_other _ _ _ _ fun e => ?_
    have h2 := h.2.1
    have e' : i = c2 := e
    rw [← e', hi] at h2
    simp only [Option.some.injEq, Obj.cells.injEq] at h2
    rw [h2.2.1] at ht
    exact absurd ht (by decide)
  · have h3 := ht j hj
    rw [← h3]
    refine World.cell?_of_block (heap_setCell_other _ _ _ _ fun e => ?_)
    have e' : 0 = c2 := e
    have h4 := ht 0 (by decide)
    have h2 := cell_of_row w c2 0 _ _ _ h.2.1
    rw [← e', h4] at h2
    cases h2
end Go.Proofs.YthkboclooplpeaaGreatDoor

/- Contract of Says. -/
namespace Go.Proofs.YthkboclooplpeaaGreatDoor
open Go.RowKit Go.Lib Go.Joins
attribute [local go_sem] evalR_tmp evalR_const evalR_global evalR_func
theorem say_start (w : World) (s : ByteArray) : SayJ w w.heap.size (w.heap.size + 1) s [] ((w.alloc (.cells #[.string s] 9)).alloc (.cells #[.bool false] 4)) :=
  ⟨heap_alloc2_old w _ _, heap_alloc2_new w _ _, ((Below.refl w.heap.size w).alloc (Nat.le_refl _) _).alloc (by simp) _, Nat.le_succ _⟩
theorem SayJ.store {w0 w w' : World} {c1 c2 b : Nat} {s : ByteArray} {D : List Nat} {cs : Array Value} {t : TypeId} {fr : Nat × Nat} (h : SayJ w0 c1 c2 s D w) (hb : w.heap[b]? = some (.cells cs t fr)) (ht : t = 33 ∨ t = 83) (hbl : w0.heap.size ≤ b) (hg : w.grownBy w' (some b)) : SayJ w0 c1 c2 s D w' := by
  have n1 : c1 ≠ b := fun e => by
    have h1 := h.1
    rw [e, hb] at h1
    simp only [Option.some.injEq, Obj.cells.injEq] at h1
    rw [h1.2.1] at ht
    exact absurd ht (by decide)
  have n2 : c2 ≠ b := fun e => by
    have h1 := h.2.1
    rw [e, hb] at h1
    simp only [Option.some.injEq, Obj.cells.injEq] at h1
    rw [h1.2.1] at ht
    exact absurd ht (by decide)
  exact ⟨(hg.block _ (Array.getElem?_eq_some_iff.1 h.1).1 (by simpa using n1)).trans h.1, (hg.block _ (Array.getElem?_eq_some_iff.1 h.2.1).1 (by simpa using n2)).trans h.2.1, h.2.2.1.grown hg h.2.2.1.size (fun j e => by simp only [Option.some.injEq] at e; omega), h.2.2.2⟩
set_option maxHeartbeats 4000000 in
set_option maxRecDepth 100000 in
theorem Says_calls {C : Nat → Prop} {v0 : Value} {L : List Stp} {w : World} {s : ByteArray} (h : SlX C w v0 L) (hC : ∀ b, C b → b < w.heap.size) (hwd : ∀ s ∈ L, s.wide) (ht : Tab w) (hs : s.size ≤ 1000000) :
    Calls Tryz.prog 9 #[v0, .string s] w fun e w' => e = .returned (.bool (lastIs (endsF L s 0) s.size)) ∧ Below w.heap.size w w' := by
  have hba := ((Below.refl w.heap.size w).alloc (Nat.le_refl _) (.cells #[.string s] 9)).alloc (by simp) (.cells #[.bool false] 4)
  have hsl := h.below (C' := C) (w' := (w.alloc (.cells #[.string s] 9)).alloc (.cells #[.bool false] 4)) fun b hb => ⟨hb, hba.block b (hC b hb)⟩
  have HE := hidden (eachS_calls (a := 0) w.heap.size (w.heap.size + 1) (SayJ w w.heap.size (w.heap.size + 1) s) hsl (fun b hb => by have := hC b hb; simp; omega) hwd (ht.below hba) (Nat.zero_le _) hs (say_start w s) (fun D a b hj hb => hj.below hb)
    (fun D wx b cs t fr w' hj hb ht' hle hg => hj.store hb ht' (by simp at hle; omega) hg) (fun D wx k hj _ => (says1_calls hj.1 hj.2.1).mono fun e w' ⟨h1, h2⟩ => by
      obtain ⟨j1, j2⟩ := hj.seen (k := k) (by omega)
      exact ⟨h1, by rw [h2]; exact j1, by rw [h2]; exact j2⟩))
  obtain ⟨av, cv, rfl, _⟩ := h
  generalize endsF L s 0 = D at *
  clear hsl hba ht
  go_enter Tryz.func9, Tryz.ntmps9
  go_wp2_with fail
  refine HE.out.mono ?_
  rintro e w2 ⟨rfl, hj⟩
  have HB := hidden hj.2.2.1
  have k0 := cell_of_row w2 (w.heap.size + 1) 0 _ _ _ hj.2.1
  clear hj
  go_wp2
  go_ret
  exact ⟨rfl, HB.out⟩
end Go.Proofs.YthkboclooplpeaaGreatDoor
