/- Contracts of strings.Builder's methods at this program: copyCheck, WriteByte, WriteString, String, over a builder that the call has laid itself. -/
import Derived.Test.YtkonmgfgnppmlaaDoorTexts
import Derived.Shelf.Strings.BuilderK
namespace Go.Proofs.YtkonmgfgnppmlaaDoor
open Go.RowKit Go.Lib

theorem infoByte : (Tryd.prog.info? 5).map (fun i => (i.zero, i.size, i.bytes)) = some (some (.int .u8 0), 1, 1) := by kernel_rfl
theorem sizeBuilder : (Tryd.prog.info? 39).map (·.size) = some 2 := by kernel_rfl
theorem liesBuilder : liesAt Tryd.prog Tryd.prog.depth 39 (2 / Tryd.prog.cellsOf 39) 0 39 1 = true := by kernel_rfl

/-- a builder in block b that holds the text s -/
def Holds (w : World) (B b : Nat) (s : ByteArray) : Prop := IsBuilderF 39 5 B b (strCells s) w
/-- the same, used -/
def Used (w : World) (B b : Nat) (s : ByteArray) : Prop := BuilderAtF 39 5 B b (.pointer (some ⟨b, 0, none⟩)) (strCells s) w

set_option maxHeartbeats 1000000 in
set_option maxRecDepth 100000 in
theorem check_used (b : Nat) (w : World) (h0 : w.cell? ⟨b, 0, none⟩ = some (.pointer (some ⟨b, 0, none⟩))) :
    Calls Tryd.prog 27 #[.pointer (some ⟨b, 0, none⟩)] w fun e w' => e = .returned (.tuple #[]) ∧ w = w' := by
  obtain ⟨j, hj, _⟩ := Option.map_eq_some_iff.1 sizeBuilder
  go_enter Tryd.func27, Tryd.ntmps27
  go_wp2
  rw [run_neq_ptr_same w _ Tryd.underlying37 hj]
  go_wp2
  go_end0
  exact ⟨rfl, rfl⟩
set_option maxHeartbeats 1000000 in
set_option maxRecDepth 100000 in
theorem check_fresh (b : Nat) (w : World) (h0 : w.cell? ⟨b, 0, none⟩ = some (.pointer none)) (hsh : w.shape? b = some (39, 2)) (hfz : w.frozen? ⟨b, 0, none⟩ = false) :
    Calls Tryd.prog 27 #[.pointer (some ⟨b, 0, none⟩)] w fun e w' => e = .returned (.tuple #[]) ∧ w.setCell ⟨b, 0, none⟩ (.pointer (some ⟨b, 0, none⟩)) = w' := by
  obtain ⟨j, hj, hjs⟩ := Option.map_eq_some_iff.1 sizeBuilder
  go_enter Tryd.func27, Tryd.ntmps27
  go_wp2
  rw [run_to_unsafe w ⟨b, 0, none⟩ Tryd.underlying37 Tryd.underlying56 hj (by rw [hjs]; decide) hsh (Nat.zero_lt_succ 1)]
  simp only [Result.andThen]
  rw [Oper.upon_value]
  go_wp2
  rw [run_callFunc_extern Tryd.func29 (by kernel_rfl) (by kernel_rfl) (by kernel_rfl) (e := Extern.AbiNoEscape.same) (by kernel_rfl)]
  rw [run_noEscape]
  simp only [Result.andThen]
  rw [Oper.upon_value]
  go_wp2
  rw [run_from_unsafe w ⟨b, 0, none⟩ Tryd.underlying56 Tryd.underlying37 hj hsh liesBuilder]
  simp only [Result.andThen]
  rw [Oper.upon_value]
  go_wp2
  go_end0
  exact ⟨rfl, rfl⟩
theorem check_calls {B b : Nat} {s : ByteArray} {w : World} (h : Holds w B b s) :
    Calls Tryd.prog 27 #[.pointer (some ⟨b, 0, none⟩)] w fun e w' => e = .returned (.tuple #[]) ∧ Used w' B b s ∧ Below B w w' := by
  rcases h with h | h
  · refine (check_fresh b w h.cell0 h.shape h.frozen0).mono ?_
    rintro e w' ⟨rfl, rfl⟩
    exact ⟨rfl, h.used _, (Below.refl B w).setCell (p := ⟨b, 0, none⟩) h.1 _⟩
  · refine (check_used b w h.cell0).mono ?_
    rintro e w' ⟨rfl, rfl⟩
    exact ⟨rfl, h, Below.refl B _⟩

/-- a builder behind a store of its grown row -/
theorem used_put {B b : Nat} {t : ByteArray} {w w1 w2 : World} {v v' : Value} (hB : B ≤ b) (hlow : Below B w w1) (hbl : B ≤ w1.heap.size) (hbk : w1.heap[b]? = some (.cells #[.pointer (some ⟨b, 0, none⟩), v] 39 (0, 0)))
    (hne : v.ownBlock ≠ some b) (hown : ∀ k, v.ownBlock = some k → B ≤ k) (hg : w1.grownBy w2 v.ownBlock) (hown' : w2.ownsRowF B 5 1 v' (strCells t).length (strCells t)) :
    Holds (w2.setCell ⟨b, 1, none⟩ v') B b t ∧ Below B w (w2.setCell ⟨b, 1, none⟩ v') := by
  have hlt : b < w1.heap.size := by
    rcases Nat.lt_or_ge b w1.heap.size with h' | h'
    · exact h'
    · simp [Array.getElem?_eq_none h'] at hbk
  have hb2 : w2.heap[b]? = some (.cells #[.pointer (some ⟨b, 0, none⟩), v] 39 (0, 0)) := by
    rw [hg.block b hlt (fun e => hne e.symm)]
    exact hbk
  exact ⟨.inr (BuilderAtF.put (T := 39) (e := 5) hB hb2 (bs' := strCells t) hown' (by decide)), (hlow.grown hg hbl hown).setCell (p := ⟨b, 1, none⟩) hB _⟩

set_option maxHeartbeats 2000000 in
set_option maxRecDepth 100000 in
theorem wstring_calls {B b : Nat} {s : ByteArray} {w : World} (h : Holds w B b s) (t : ByteArray) (hs : s.size ≤ 1073741824) (ht : t.size ≤ 1073741824) (hBw : B ≤ w.heap.size) :
    Calls Tryd.prog 20 #[.pointer (some ⟨b, 0, none⟩), .string t] w fun e w' => e = .returned (.tuple #[.int .i64 t.size, .nilIface]) ∧ Holds w' B b (s ++ t) ∧ Below B w w' := by
  obtain ⟨i0, hi, hz0, hz1, hz2⟩ := info_parts infoByte
  have hl : (strCells s).length = s.size := strCells_length s
  go_enter Tryd.func20, Tryd.ntmps20
  go_wp2_with fail
  refine (check_calls h).mono ?_
  rintro e w1 ⟨rfl, h1, hb1⟩
  obtain ⟨hB, v, hbk, hown, hne⟩ := h1
  have c1 : w1.cell? ⟨b, 1, none⟩ = some v := by rw [cell_of_heap hbk]; rfl
  have hbl : B ≤ w1.heap.size := Nat.le_trans hBw hb1.size
  rw [hl] at hown
  go_wp2_with (at_builtin; refine wpList_append_own_stringF _ rfl _ _ 35 9 rfl B 5 i0 Tryd.underlying35 Tryd.underlying9 hi hz0 hz1 hz2 _ _ _ rfl hown t rfl ?c3 ?c4 hbl ?_)
  case c3 => unfold maxLen; omega
  case c4 => omega
  intro v' w2 hown' hg _
  have hfz : w2.frozen? ⟨b, 1, none⟩ = false := by
    refine frozen_of_heap (cs := #[.pointer (some ⟨b, 0, none⟩), v]) (T := 39) ?_ 1
    rw [hg.block b (by
      rcases Nat.lt_or_ge b w1.heap.size with h' | h'
      · exact h'
      · simp [Array.getElem?_eq_none h'] at hbk) (fun e => hne e.symm)]
    exact hbk
  have d1 : w2.cell? ⟨b, 1, none⟩ = some v := by
    rw [cell_of_heap (cs := #[.pointer (some ⟨b, 0, none⟩), v]) (T := 39) (fr := (0, 0))]
    · rfl
    · rw [hg.block b (by
        rcases Nat.lt_or_ge b w1.heap.size with h' | h'
        · exact h'
        · simp [Array.getElem?_eq_none h'] at hbk) (fun e => hne e.symm)]
      exact hbk
  have H := hidden (used_put (t := s ++ t) hB hb1 hbl hbk hne (fun k hk => (hown.lt k hk).1) hg (by rw [strCells_length, ByteArray.size_append, strCells_add]; exact hown'))
  obtain ⟨ao, n', cap, rfl⟩ : ∃ ao n' cap, v' = .slice ao n' cap := by
    rcases hown'.2 with ⟨hv, _⟩ | ⟨g, cap, cur, fz, hv, _⟩
    · exact ⟨_, _, _, hv⟩
    · exact ⟨_, _, _, hv⟩
  clear hown hown' hg hbk hb1 hl
  go_wp2
  go_ret2
  exact ⟨rfl, H.out⟩

theorem strCells_one (n : Int) (h0 : 0 ≤ n) (h1 : n < 256) : strCells (strOfNums [n]) = [.int .u8 n] := by
  simp [strCells, strOfNums_data]
  omega
set_option maxHeartbeats 2000000 in
set_option maxRecDepth 100000 in
theorem wbyte_calls {B b : Nat} {s : ByteArray} {w : World} (h : Holds w B b s) (n : Int) (h0 : 0 ≤ n) (h1 : n < 256) (hs : s.size ≤ 1073741824) (hBw : B ≤ w.heap.size) :
    Calls Tryd.prog 19 #[.pointer (some ⟨b, 0, none⟩), .int .u8 n] w fun e w' => e = .returned .nilIface ∧ Holds w' B b (s ++ strOfNums [n]) ∧ Below B w w' := by
  obtain ⟨i0, hi, hz0, hz1, hz2⟩ := info_parts infoByte
  have hl : (strCells s).length = s.size := strCells_length s
  have hone := hidden (strCells_one n h0 h1)
  go_enter Tryd.func19, Tryd.ntmps19
  go_wp2_with fail
  refine (check_calls h).mono ?_
  rintro e w1 ⟨rfl, h1, hb1⟩
  obtain ⟨hB, v, hbk, hown, hne⟩ := h1
  have c1 : w1.cell? ⟨b, 1, none⟩ = some v := by rw [cell_of_heap hbk]; rfl
  have hbl : B ≤ w1.heap.size := Nat.le_trans hBw hb1.size
  rw [hl] at hown
  go_wp2_with (at_builtin; refine wpList_append_ownF _ rfl _ _ 35 rfl B 5 i0 (.int .u8 0) 1 1 Tryd.underlying35 hi hz0 hz1 hz2 rfl (by decide) _ _ _ rfl (hown.alloc _) ⟨w1.heap.size, 0, none⟩ 1 1 [.int .u8 n] rfl rfl ?c1 ?c2 ?c3 ?c4 ?c5 ?_)
  case c1 =>
    intro j u hj
    match j, hj with
    | 0, hj => simp at hj; subst hj; simp [Addr.add]
  case c2 => intro u hu; simp at hu; subst hu; rfl
  case c3 => unfold maxLen; omega
  case c4 => omega
  case c5 => simp; omega
  intro v' w2 hown' hg _
  have hlt : b < w1.heap.size := by
    rcases Nat.lt_or_ge b w1.heap.size with h' | h'
    · exact h'
    · simp [Array.getElem?_eq_none h'] at hbk
  have hbk' := hbk
  rw [← alloc_old w1 (.cells #[.int .u8 n] 5) b hlt] at hbk'
  have hb2 := hg.block b (by simp; omega) (fun e => hne e.symm)
  rw [hbk'] at hb2
  have hfz : w2.frozen? ⟨b, 1, none⟩ = false := frozen_of_heap hb2 1
  have d1 : w2.cell? ⟨b, 1, none⟩ = some v := by rw [cell_of_heap hb2]; rfl
  have H := hidden (used_put (t := s ++ strOfNums [n]) hB (hb1.alloc hbl _) (by simp; omega) hbk' hne (fun k hk => (hown.lt k hk).1) hg (by
    rw [strCells_length, ByteArray.size_append, strCells_add, hone.out, strOfNums_size]; exact hown'))
  obtain ⟨ao, n', cap, rfl⟩ : ∃ ao n' cap, v' = .slice ao n' cap := by
    rcases hown'.2 with ⟨hv, _⟩ | ⟨g, cap, cur, fz, hv, _⟩
    · exact ⟨_, _, _, hv⟩
    · exact ⟨_, _, _, hv⟩
  clear hown hown' hg hbk hb1 hl hbk' hb2
  go_wp2
  go_ret
  exact ⟨rfl, H.out⟩
end Go.Proofs.YtkonmgfgnppmlaaDoor
