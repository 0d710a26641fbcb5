/- Contracts of the iterator place.lines and of place.find. -/
import Derived.Test.YtekpbhfbojijiaaPlaceAt
import Derived.RangeFuncNested
import Derived.RangeFuncBound
import Derived.RangeFuncCalls
import Derived.RangeFuncLeaves
import Derived.Shelf.Abstract
import Derived.Shelf.RegionOpen
import Derived.OwnWalkIn
import Derived.TacticsInMore
import Derived.LoopNIn
import Derived.LoopIn
namespace Go.Proofs.Ytekpbhfbojijiaa
open Go.RowKit Go.Shelf
attribute [local go_sem] Oper.semAt_some

/-- the lines with their numbers, less one -/
def numbered (l : List UInt8) : List ((Nat × Nat) × Nat) := (cutsAux l 0).zipIdx
def encLine (x : (Nat × Nat) × Nat) : Array Value := #[.int .i64 ((x.2 : Int) + 1), .agg #[.int .i64 x.1.1, .int .i64 x.1.2]]
theorem index_calls (s : ByteArray) (c : Int) (w : World) :
    Calls Try.prog 36 #[.string s, .int .u8 c] w fun e w' => e = .returned (.int .i64 (Lib.indexByte s.data.toList c.toNat.toUInt8)) ∧ w = w' := by
  go_enter Try.func36, Try.ntmps36
  go_wp2
  rw [run_callFunc_extern Try.func42 (by kernel_rfl) (by kernel_rfl) (by kernel_rfl) (e := Extern.BytealgIndexByte.indexByte) (by kernel_rfl), Lib.run_indexByteString]
  simp only [Result.andThen]
  rw [Oper.upon_value]
  go_wp2
  go_ret
  exact ⟨rfl, rfl⟩
theorem index_part (s : ByteArray) (f : Nat) (w : World) :
    Calls Try.prog 36 #[.string (s.extract f s.size), .int .u8 10] w fun e w' => e = .returned (.int .i64 (Lib.indexByte (s.data.toList.drop f) 10)) ∧ w = w' := by
  have := index_calls (s.extract f s.size) 10 w
  rw [part_list, List.take_of_length_le (by simp)] at this
  exact this
theorem numbered_step {l : List UInt8} {k f j : Nat} (h : (numbered l).drop k = (cutsAux (l.drop f) f).zipIdx k) (hj : Lib.indexByte (l.drop f) 10 = j) :
    f + j + 1 ≤ l.length ∧ (numbered l).take (k + 1) = (numbered l).take k ++ [((f, f + j), k)] ∧ (numbered l).drop (k + 1) = (cutsAux (l.drop (f + j + 1)) (f + j + 1)).zipIdx (k + 1) ∧ k < (numbered l).length := by
  obtain ⟨h1, h2⟩ := cuts_some (l.drop f) f j hj
  rw [h2, List.zipIdx_cons] at h
  have hk : k < (numbered l).length := by
    rcases Nat.lt_or_ge k (numbered l).length with hlt | hge
    · exact hlt
    · rw [List.drop_eq_nil_of_le hge] at h
      cases h
  rw [List.drop_eq_getElem_cons hk, List.cons.injEq] at h
  refine ⟨by simp at h1; omega, ?_, ?_, hk⟩
  · rw [List.take_succ_eq_append_getElem hk, h.1]
  · rw [h.2, List.drop_drop, show f + (j + 1) = f + j + 1 by omega]
theorem numbered_last {l : List UInt8} {k f : Nat} (hf : f ≤ l.length) (h : (numbered l).drop k = (cutsAux (l.drop f) f).zipIdx k) (hj : Lib.indexByte (l.drop f) 10 = -1) :
    numbered l = (numbered l).take k ++ [((f, l.length), k)] ∧ k < (numbered l).length := by
  rw [cuts_none (l.drop f) f hj] at h
  have e : f + (l.drop f).length = l.length := by simp; omega
  rw [e] at h
  refine ⟨?_, ?_⟩
  · exact (List.take_append_drop k (numbered l)).symm.trans (by rw [h]; rfl)
  · rcases Nat.lt_or_ge k (numbered l).length with hlt | hge
    · exact hlt
    · rw [List.drop_eq_nil_of_le hge] at h
      cases h
theorem numbered_start (l : List UInt8) : (numbered l).drop 0 = (cutsAux (l.drop 0) 0).zipIdx 0 := rfl

set_option maxRecDepth 100000 in
set_option maxHeartbeats 2000000 in
theorem iter_in (n : Nat) (hn : 1 ≤ n) (l Bs n₀ : Nat) (hB : Bs < n₀) (s : ByteArray) (hs : s.size ≤ 1000000) (J Jx : List ((Nat × Nat) × Nat) → World → Prop)
    (hY : ∀ pre x W, J pre W → pre.length < (numbered s.data.toList).length → YieldAt Fence.wide (n - 1) Try.prog l (encLine x) W fun e W' =>
      (e = .returned (.bool true) ∧ J (pre ++ [x]) W' ∧ Below n₀ W W') ∨ (e = .returned (.bool false) ∧ Jx (pre ++ [x]) W'))
    (W : World) (hBs : W.cell? ⟨Bs, 0, none⟩ = some (.string s)) (h0 : J [] W) :
    CallsIn Fence.wide n Try.prog 35 #[.func (.yield l) #[] #[], .pointer (some ⟨Bs, 0, none⟩)] W fun e W' => (∃ v, e = .returned v) ∧
      ((∃ ys, ys = numbered s.data.toList ∧ J ys W') ∨ (∃ pre, pre <+: numbered s.data.toList ∧ Jx pre W')) := by
  refine callsIn_of_wp Try.func35 rfl trivial ?_ rfl
  simp only [Try.ntmps35, List.size_toArray, List.length_cons, List.length_nil, Nat.reduceAdd, Nat.reduceSub, Array.replicate_succ, Array.replicate_zero, List.push_toArray, List.append_toArray, List.nil_append, List.cons_append]
  gi_wp2
  gi_loopw [3, 4] (fun f i wr => ∃ k F : Nat, f = .int .i64 F ∧ i = .int .i64 ((k : Int) + 1) ∧ F ≤ s.size ∧ (numbered s.data.toList).drop k = (cutsAux (s.data.toList.drop F) F).zipIdx k ∧ J ((numbered s.data.toList).take k) wr ∧ Below n₀ W wr)
    (fun f _ _ => s.size - (intOf f).toNat)
  case atStart => exact ⟨0, 0, rfl, rfl, by omega, numbered_start _, h0, Below.refl _ _⟩
  case round =>
    obtain ⟨k, F, rfl, rfl, hF, hd, hJs, hnx⟩ := hrel
    have hcs : wr.cell? ⟨Bs, 0, none⟩ = some (.string s) := (hnx.cell (p := ⟨Bs, 0, none⟩) hB).trans hBs
    have hge := Lib.indexByte_ge (s.data.toList.drop F) 10
    have hkk : k < (numbered s.data.toList).length → k ≤ 1000001 := fun h => by
      have e : (numbered s.data.toList).length = s.data.toList.count 10 + 1 := by rw [numbered, List.length_zipIdx, cuts_len]
      have : s.data.toList.count 10 ≤ s.size := by rw [← list_len s]; exact List.count_le_length
      omega
    by_cases hi : Lib.indexByte (s.data.toList.drop F) 10 = -1
    · have HI := hidden hi
      obtain ⟨g1, g2⟩ := numbered_last (by simpa using hF) hd hi
      have hk := hkk g2
      obtain ⟨fn, tmps, assign, body, hy, hR⟩ := hY _ ((F, s.data.toList.length), k) wr hJs (by simp; omega)
      rw [← g1] at hR
      dsimp only [encLine] at hy
      rw [show s.data.toList.length = s.size by simp] at hy
      clear hi g1 g2 hd hkk hge
      gi_wp2_with (refine ⟨trivial, ?_⟩; gi_at_call 36; refine (callsIn_wide.2 (index_part s F _)).mono ?_; rintro e w' ⟨rfl, rfl⟩; rw [HI.out])
      refine hR.mono ?_
      rintro e W3 (⟨rfl, hJ3, hk3⟩ | ⟨rfl, hJx3⟩)
      · gi_wp2
        refine bodyPost_ret (results_none rfl _ _ _) rfl ?_
        exact ⟨⟨_, rfl⟩, .inl ⟨_, rfl, hJ3⟩⟩
      · gi_wp2
        refine bodyPost_ret (results_none rfl _ _ _) rfl ?_
        exact ⟨⟨_, rfl⟩, .inr ⟨_, List.prefix_refl _, hJx3⟩⟩
    · obtain ⟨j, hj⟩ : ∃ j : Nat, Lib.indexByte (s.data.toList.drop F) 10 = j := ⟨(Lib.indexByte (s.data.toList.drop F) 10).toNat, by omega⟩
      have HI := hidden hj
      obtain ⟨g1, g2, g3, g4⟩ := numbered_step hd hj
      have hk := hkk g4
      obtain ⟨fn, tmps, assign, body, hy, hR⟩ := hY _ ((F, F + j), k) wr hJs (by simp; omega)
      rw [← g2] at hR
      dsimp only [encLine] at hy
      rw [Int.natCast_add] at hy
      have hpre := hidden (List.take_prefix (k + 1) (numbered s.data.toList))
      have H3 := hidden g3
      rw [list_len s] at g1
      clear hi hj g2 g3 g4 hd hkk hge
      gi_wp2_with (refine ⟨trivial, ?_⟩; gi_at_call 36; refine (callsIn_wide.2 (index_part s F _)).mono ?_; rintro e w' ⟨rfl, rfl⟩; rw [HI.out])
      refine hR.mono ?_
      rintro e W3 (⟨rfl, hJ3, hk3⟩ | ⟨rfl, hJx3⟩)
      · gi_wp2
        go_roundw
        case rel => exact ⟨k + 1, F + j + 1, by go_num, by go_num, g1, H3.out, hJ3, hnx.trans hk3⟩
        case measure => simp [intOf]; omega
      · gi_wp2
        refine bodyPost_ret (results_none rfl _ _ _) rfl ?_
        exact ⟨⟨_, rfl⟩, .inr ⟨_, hpre.out, hJx3⟩⟩

theorem lines_in (s : ByteArray) (w : World) : Calls Try.prog 31 #[.string s] w fun e w' => e = .returned (.func (.func 35) #[] #[.pointer (some ⟨w.heap.size, 0, none⟩)]) ∧ w' = w.alloc (.cells #[.string s] 9) := by
  go_enter Try.func31, Try.ntmps31
  go_wp2
  go_ret
  exact ⟨rfl, rfl⟩
theorem iter_stops (n : Nat) (hn : 1 ≤ n) (Bs n₀ : Nat) (s : ByteArray) (hs : s.size ≤ 1000000) (w : World) (hBs : Bs < n₀) (hn₀ : n₀ ≤ w.heap.size) (hc : w.cell? ⟨Bs, 0, none⟩ = some (.string s)) :
    SeqStopsK Fence.wide n Try.prog 35 #[.pointer (some ⟨Bs, 0, none⟩)] encLine (Below n₀) (fun ys => ys = numbered s.data.toList) (fun pre => pre <+: numbered s.data.toList) (numbered s.data.toList).length w := fun l J Jx W hW _ _ hY h0 =>
  iter_in n hn l Bs n₀ hBs s hs J Jx hY W ((hW.cell (p := ⟨Bs, 0, none⟩) (by show Bs < w.heap.size; omega)).trans hc) h0

theorem pair_own {β : Type} (t : TypeId) (B : Nat) (f g : β → Int) : Own (fun s W => PairAt t W B (f s) (g s)) := fun s X Y row hs hg hrow => by
  have hs : PairAt t X B (f s) (g s) := hs
  refine (hg.block B hs.lt (fun e' => ?_)).trans hs
  obtain ⟨o, ho, hc⟩ := hrow B e'.symm
  unfold PairAt at hs
  rw [hs] at ho
  cases ho
  cases hc
theorem results_cells2 {fn : Func} {p q : Tmp} {t u : TypeId} (h : fn.results = #[.cell p t, .cell q u]) (tmps : Array Value) (P : Program) (w : World) :
    (results fn tmps).run P w =
      ((asAddr (tmps.getD p undef)).run P w).andThen fun a w₁ => ((loadVar t a).run P w₁).andThen fun v w₂ => ((asAddr (tmps.getD q undef)).run P w₂).andThen fun b w₃ => ((loadVar u b).run P w₃).andThen fun x w₄ => .ok (.tuple #[v, x]) w₄ := by
  simp only [results, h]
  simp [Sem.run_bind, Result.andThen]

/-- block B is one cell -/
def OneAt (t : TypeId) (w : World) (B : Nat) (v : Value) : Prop := w.heap[B]? = some (.cells #[v] t (0, 0))
theorem OneAt.cell {t : TypeId} {w : World} {B : Nat} {v : Value} (h : OneAt t w B v) : w.cell? ⟨B, 0, none⟩ = some v := cell_of_row w B 0 _ _ _ h
theorem OneAt.frozen {t : TypeId} {w : World} {B : Nat} {v : Value} (h : OneAt t w B v) : w.frozen? ⟨B, 0, none⟩ = false := frozen_of_row w B 0 _ _ h
theorem OneAt.kept {t : TypeId} {w w' : World} {B n : Nat} {v : Value} (h : OneAt t w B v) (hb : Below n w w') (hB : B < n) : OneAt t w' B v := (hb.block B hB).trans h
theorem OneAt.lt {t : TypeId} {w : World} {B : Nat} {v : Value} (h : OneAt t w B v) : B < w.heap.size := by
  rcases Nat.lt_or_ge B w.heap.size with hlt | hge
  · exact hlt
  · unfold OneAt at h
    rw [Array.getElem?_eq_none hge] at h
    cases h
theorem OneAt.made {t : TypeId} {w : World} {v : Value} {B : Nat} (h : B = w.heap.size) : OneAt t (w.alloc (.cells #[v] t)) B v := by
  subst h
  exact heap_alloc_new w _
theorem OneAt.alloc {t : TypeId} {w : World} {B : Nat} {v : Value} (h : OneAt t w B v) (o : Obj) : OneAt t (w.alloc o) B v := (heap_alloc_old w _ h.lt).trans h
theorem OneAt.stored {t : TypeId} {w : World} {B : Nat} {v : Value} (h : OneAt t w B v) (v' : Value) : OneAt t (w.setCell ⟨B, 0, none⟩ v') B v' := heap_setCell_same _ B 0 _ _ _ h
theorem OneAt.other {t : TypeId} {w : World} {B b i : Nat} {v : Value} (h : OneAt t w B v) (hne : B ≠ b) (u : Value) : OneAt t (w.setCell ⟨b, i, none⟩ u) B v := by
  unfold OneAt at h ⊢
  rw [heap_setCell_other _ _ _ _ hne, h]
theorem one_own {β : Type} (t : TypeId) (B : Nat) (f : β → Value) : Own (fun s W => OneAt t W B (f s)) := fun s X Y row hs hg hrow => by
  have hs : OneAt t X B (f s) := hs
  refine (hg.block B hs.lt (fun e' => ?_)).trans hs
  obtain ⟨o, ho, hc⟩ := hrow B e'.symm
  unfold OneAt at hs
  rw [hs] at ho
  cases ho
  cases hc

theorem PairAt.put {t : TypeId} {W : World} {B D : Nat} {a b : Int} (h : PairAt t W B a b) (hne : B ≠ D) (o : Obj) : PairAt t (W.putObj D o) B a b :=
  ((grownBy_putObj' W D o).block B h.lt (fun e => by cases e; exact hne rfl)).trans h
theorem OneAt.put {t : TypeId} {W : World} {B D : Nat} {v : Value} (h : OneAt t W B v) (hne : B ≠ D) (o : Obj) : OneAt t (W.putObj D o) B v :=
  ((grownBy_putObj' W D o).block B h.lt (fun e => by cases e; exact hne rfl)).trans h

theorem found_results {tmps : Array Value} {W : World} {B C : Nat} {x y : Int} {v : Value} (hp : tmps.getD 4 undef = .pointer (some ⟨B, 0, none⟩)) (hq : tmps.getD 5 undef = .pointer (some ⟨C, 0, none⟩))
    (hP : PairAt 34 W B x y) (hO : OneAt 4 W C v) : (results Try.f28 tmps).run Try.prog W = .ok (.tuple #[.agg #[.int .i64 x, .int .i64 y], v]) W := by
  rw [results_cells2 Try.results28, hp, hq]
  have hc := hO.cell
  simp only [asAddr, Sem.run_pure, Result.andThen]
  rw [run_loadVar_row W B 34 34 _ (0, 0) _ hP Try.underlying34 rfl (by kernel_rfl)]
  simp [go_sem, hc]

/-- what find hands back -/
def foundR (x : (Nat × Nat) × Bool) : Ending := .returned (.tuple #[.agg #[.int .i64 x.1.1, .int .i64 x.1.2], .bool x.2])
def lastOf (pre : List ((Nat × Nat) × Nat)) : (Nat × Nat) × Nat := pre.getLastD ((0, 0), 0)
theorem lastOf_concat (pre : List ((Nat × Nat) × Nat)) (x : (Nat × Nat) × Nat) : lastOf (pre ++ [x]) = x := by simp [lastOf]
theorem lastOf_mem {pre l : List ((Nat × Nat) × Nat)} (h : pre ≠ []) (hp : pre <+: l) : lastOf pre ∈ l := by
  have : lastOf pre = pre.getLast h := by
    unfold lastOf
    rw [List.getLastD_eq_getLast?, List.getLast?_eq_some_getLast h]
    rfl
  rw [this]
  exact hp.subset (List.getLast_mem h)
theorem found_some {l : List UInt8} {x : (Nat × Nat) × Nat} {n : Int} (h : x ∈ numbered l) (e : (x.2 : Int) + 1 = n) : lineV l n = (x.1, true) := by
  obtain ⟨p, k⟩ := x
  have := List.mk_mem_zipIdx_iff_getElem?.1 h
  unfold lineV
  rw [if_pos (by simp at e; omega), show (n - 1).toNat = k by simp at e; omega, this]
theorem found_none {l : List UInt8} {n : Int} (h : ∀ x ∈ numbered l, (x.2 : Int) + 1 ≠ n) : lineV l n = ((0, 0), false) := by
  unfold lineV
  split
  · split
    · rename_i h1 p hp
      have := h (p, (n - 1).toNat) (List.mk_mem_zipIdx_iff_getElem?.2 hp)
      simp at this
      omega
    · rfl
  · rfl

set_option maxRecDepth 100000 in
set_option maxHeartbeats 2000000 in
theorem find_calls (s : ByteArray) (n : Int) (w : World) (hs : s.size ≤ 1000000) :
    Calls Try.prog 28 #[.string s, .int .i64 n] w fun e w' => e = foundR (lineV s.data.toList n) ∧ Below w.heap.size w w' := by
  refine (callsIn_wide (n := 5)).1 ?_
  refine callsIn_of_wp_marks Try.func28 rfl trivial ?_ rfl
  simp only [Try.ntmps28, List.size_toArray, List.length_cons, List.length_nil, Nat.reduceAdd, Nat.reduceSub, Array.replicate_succ, Array.replicate_zero, List.push_toArray, List.append_toArray, List.nil_append, List.cons_append]
  gi_wp2_with (refine ⟨trivial, ?_⟩; gi_at_call 31; refine (callsIn_wide.2 (lines_in s _)).mono ?_; rintro e w' ⟨rfl, rfl⟩)
  obtain ⟨W0, hW0⟩ : ∃ W0, (((w.alloc (.cells #[.int .i64 n] 3)).alloc (.cells #[.int .i64 0, .int .i64 0] 34)).alloc (.cells #[.bool false] 4)).alloc (.cells #[.string s] 9) = W0 := ⟨_, rfl⟩
  have hsz : W0.heap.size = w.heap.size + 1 + 1 + 1 + 1 := by rw [← hW0]; simp
  have hBB : Below w.heap.size w W0 := by rw [← hW0]; go_grown
  have hN : OneAt 3 W0 w.heap.size (.int .i64 n) := by rw [← hW0]; exact (((OneAt.made rfl).alloc _).alloc _).alloc _
  have hR : PairAt 34 W0 (w.heap.size + 1) 0 0 := by rw [← hW0]; exact ((PairAt.made (by simp)).alloc _).alloc _
  have hT : OneAt 4 W0 (w.heap.size + 1 + 1) (.bool false) := by rw [← hW0]; exact (OneAt.made (by simp)).alloc _
  have hS : OneAt 9 W0 (w.heap.size + 1 + 1 + 1) (.string s) := by rw [← hW0]; exact OneAt.made (by simp)
  rw [hW0]
  clear hW0
  refine wpIn_rangeFunc_ownH rfl (by decide) (gf := 35) (lb := #[.pointer (some ⟨w.heap.size + 1 + 1 + 1, 0, none⟩)]) rfl trivial (enters_of Try.func35 (by kernel_rfl) rfl)
    (iter_stops 4 (by decide) (w.heap.size + 1 + 1 + 1) W0.heap.size s hs W0 (by omega) (Nat.le_refl _) hS.cell) belowK_t (belowK_b (Nat.le_refl _)) (Below.refl _ _) (fun _ => rfl)
    (fun pre W => (∀ x ∈ pre, (x.2 : Int) + 1 ≠ n) ∧ Below W0.heap.size W0 W)
    (fun c pre W => ((c = .ret ∧ pre ≠ [] ∧ ((lastOf pre).2 : Int) + 1 = n) ∧ PairAt 34 W (w.heap.size + 1) (lastOf pre).1.1 (lastOf pre).1.2 ∧ OneAt 4 W (w.heap.size + 1 + 1) (.bool true)) ∧ Below w.heap.size w W)
    (OwnFrom.and (ownFrom_pure _ _) (ownFrom_below (Nat.le_refl _) (Nat.le_refl _)))
    (fun c => OwnFrom.and (OwnFrom.and (ownFrom_pure _ _) (OwnFrom.and (Own.from (pair_own _ _ _ _) _) (Own.from (one_own _ _ _) _))) (ownFrom_below (Nat.le_refl _) (by omega)))
    ⟨by simp, Below.refl _ _⟩
    (fun x a' W => ∃ Bx, W0.heap.size ≤ Bx ∧ PairAt 34 W Bx x.1.1 x.1.2 ∧ a' = { tmps := #[.string s, .int .i64 n, undef, .pointer (some ⟨w.heap.size, 0, none⟩), .pointer (some ⟨w.heap.size + 1, 0, none⟩), .pointer (some ⟨w.heap.size + 1 + 1, 0, none⟩), .int .i64 ((x.2 : Int) + 1), .pointer (some ⟨Bx, 0, none⟩), .string s, .func (.func 35) #[] #[.pointer (some ⟨w.heap.size + 1 + 1 + 1, 0, none⟩)], .int .i64 ((x.2 : Int) + 1), .agg #[.int .i64 x.1.1, .int .i64 x.1.2], undef, undef, undef, undef, undef], defers := [] })
    (fun x a' => ?hax) ?assign ?body ?done ?stop
  case hax =>
    rintro ⟨⟩ X Y row ⟨Bx, h1, h2, h3⟩ hg hr
    exact ⟨Bx, h1, (Own.from (pair_own 34 Bx (fun _ : Unit => (x.1.1 : Int)) (fun _ => (x.1.2 : Int))) W0.heap.size) () X Y row h2 hg hr, h3⟩
  case assign =>
    rintro l pre x W K ⟨hp, hb⟩ hK
    dsimp only [encLine]
    gi_wp2
    refine hK _ _ ((KeepsOthers.alloc _ _).from _) ((Below.refl _ W).alloc hb.size _) ⟨hp, hb.trans ((Below.refl _ W).alloc hb.size _)⟩ ⟨W.heap.size, hb.size, PairAt.made rfl, rfl⟩
  case body =>
    rintro l pre x a' W hl ⟨r, hr⟩ ⟨hp, hb⟩ ⟨Bx, hBx, bX, rfl⟩ hlt
    obtain ⟨c0, c1, _, _⟩ := bX.facts
    have hcn := (hN.kept hb (by omega)).cell
    have hR' := hR.kept hb (by omega)
    have hT' := hT.kept hb (by omega)
    obtain ⟨r0, r1, f0, f1⟩ := hR'.facts
    have ht0 := hT'.cell
    have ht1 := hT'.frozen
    by_cases he : (x.2 : Int) + 1 = n
    · have heq : ((x.2 : Int) + 1 == n) = true := by simpa using he
      have HE := hidden he
      clear he
      gi_wp2
      · refine ⟨((KeepsOthers.setCell _ _ _).trans ((KeepsOthers.setCell _ _ _).trans (KeepsOthers.setCell _ _ _))).from _, ⟨⟨rfl, by simp, by rw [lastOf_concat]; exact HE.out⟩, ?_, ?_⟩, ?_⟩
        · rw [lastOf_concat]
          exact (hR'.stored _ _).other (by omega) _
        · exact ((hT'.other (by omega) _).other (by omega) _).stored _
        · exact (below_two (hBB.trans (hb.mono (by omega))) _ (by omega) _ _).setCell (by simp; omega) _
    · have heq : ((x.2 : Int) + 1 == n) = false := by simpa using he
      have HE := hidden he
      clear he
      gi_wp2
      · refine ⟨(KeepsOthers.refl _).from _, Below.refl _ _, fun y hy => ?_, hb⟩
        rcases List.mem_append.1 hy with h | h
        · exact hp y h
        · simp at h
          subst h
          exact HE.out
  case done =>
    rintro D ys W hD rfl ⟨hp, hb⟩ hK
    have hV := hidden (found_none hp)
    clear hp
    have hR' := hR.kept hb (by omega)
    have hT' := hT.kept hb (by omega)
    obtain ⟨r0, r1, f0, f1⟩ := hR'.facts
    have ht0 := hT'.cell
    have ht1 := hT'.frozen
    have hRR := hidden hR'
    have hTT := hidden hT'
    have hBB' := hidden (hBB.trans (hb.mono (by omega)))
    clear hR' hT' hR hT hN hS
    gi_wp2
    have hK' := ((KeepsOthers.setCell W ⟨w.heap.size + 1, 0, none⟩ (.int .i64 0)).trans ((KeepsOthers.setCell _ ⟨w.heap.size + 1, 1, none⟩ (.int .i64 0)).trans (KeepsOthers.setCell _ ⟨w.heap.size + 1 + 1, 0, none⟩ (.bool false)))).same D _ hK rfl
    refine ⟨by simp, .inl ⟨_, _, rfl, run_takeDeferred hK', ?_⟩⟩
    have hP := ((hRR.out.stored 0 0).other (by omega) (.bool false) (b := w.heap.size + 1 + 1) (i := 0)).put (D := D) (by omega) (.deferred none)
    have hQ := (((hTT.out.other (b := w.heap.size + 1) (i := 0) (by omega) (.int .i64 0)).other (b := w.heap.size + 1) (i := 1) (by omega) (.int .i64 0)).stored (.bool false)).put (D := D) (by omega) (.deferred none)
    refine ⟨_, found_results rfl rfl hP hQ, by rw [hV.out]; rfl, ?_⟩
    exact ((below_two hBB'.out _ (by omega) _ _).setCell (by simp; omega) _).trans (belowK_b (w := w) (Nat.le_refl _) _ D _ _ (by omega) hK' rfl rfl)
  case stop =>
    rintro D c pre W hD hpre ⟨⟨⟨rfl, hne, hn⟩, h1, h2⟩, hb⟩ hK
    have hV := hidden (found_some (lastOf_mem hne hpre) hn)
    clear hR hT hN hS hn hpre hne
    gi_wp2
    refine ⟨by simp, .inl ⟨_, _, rfl, run_takeDeferred hK, ?_⟩⟩
    have hP := h1.put (D := D) (by omega) (.deferred none)
    have hQ := h2.put (D := D) (by omega) (.deferred none)
    refine ⟨_, found_results rfl rfl hP hQ, by rw [hV.out]; rfl, ?_⟩
    exact hb.trans (belowK_b (w := w) (Nat.le_refl _) _ D _ _ (by omega) hK rfl rfl)
end Go.Proofs.Ytekpbhfbojijiaa
