/- Upto, Texts, EscBuild, EscText, put together. -/
import Derived.Test.YthiiinbkkjacbaaDoorRt01
import Derived.JoinedCond
import Derived.Test.YthiiinbkkjacbaaDoorRt12
import Derived.Lib.AppendStr
import Derived.SliceStrings
import Derived.Test.YthiiinbkkjacbaaDoorRt04
import Derived.Shelf.Strings.BuilderK
/- What the bound of an '..UptoSaid' gives. -/
namespace Go.Proofs.YthiiinbkkjacbaaDoor
open Go.RowKit

theorem upto_le {H : Type} {d : DataW H} {l : List (DataW H)} (h : d ∈ l) : Rows.uptoBulk d ≤ Rows.uptoBulkAll l := by
  induction l with
  | nil => cases h
  | cons x r ih =>
    simp only [Rows.uptoBulkAll]
    rcases List.mem_cons.1 h with e | e
    · subst e
      omega
    · have := ih e
      omega
theorem upto_string {H : Type} {l : List (DataW H)} {s : ByteArray} (hk : Rows.uptoSmall H l = true) (h : DataW.lit (H := H) (.string s.data.toList) ∈ l) : s.size ≤ 1048576 := by
  have h1 : Rows.uptoBulkAll l ≤ 1048576 := of_decide_eq_true hk
  have h2 := upto_le h
  rw [show Rows.uptoBulk (DataW.lit (H := H) (.string s.data.toList)) = s.data.toList.length + 1 by simp only [Rows.uptoBulk]] at h2
  have e : s.data.toList.length = s.size := by simp
  omega
end Go.Proofs.YthiiinbkkjacbaaDoor

/- Texts and lists of texts: their cells, their sums, a slice of texts that came in, or that a call has laid in a block of its own. -/
namespace Go.Proofs.YthiiinbkkjacbaaDoor
open Go.RowKit Go.Lib

/-! ### texts and their cells -/
theorem strCells_add (s t : ByteArray) : strCells (s ++ t) = strCells s ++ strCells t := by
  simp [strCells, ByteArray.data_append]
theorem strCells_empty : strCells ByteArray.empty = [] := rfl
/-- the bytes of a text as numbers -/
def nums (s : ByteArray) : List Int := s.data.toList.map fun b => (b.toNat : Int)
theorem nums_length (s : ByteArray) : (nums s).length = s.size := by simp [nums]
theorem strOf_nums (s : ByteArray) : strOfNums (nums s) = s := by
  apply Go.WideShapes.bytes_inj
  rw [strOfNums_data, nums, List.map_map]
  conv => rhs; rw [← List.map_id s.data.toList]
  exact List.map_congr_left fun b _ => by simp
theorem strCells_get (s : ByteArray) (i : Nat) (h : i < s.size) : (strCells s)[i]? = some (.int .u8 ((nums s).getD i 0)) := by
  have h' : i < s.data.size := h
  have e : s.data[i]? = some s.data[i] := by simp
  simp [strCells, nums, e]
theorem strCells_byte (s : ByteArray) (i : Nat) (h : i < s.size) : (strCells s)[i]? = some (.int .u8 (s[i].toNat : Int)) := by
  have h' : i < s.data.size := h
  have e : s.data[i]? = some s.data[i] := by simp
  simp only [strCells, List.getElem?_map, Array.getElem?_toList, e]
  rfl
theorem strCells_take (s : ByteArray) (n : Nat) : strCells (s.extract 0 n) = (strCells s).take n := by
  simp [strCells, ByteArray.data_extract, List.map_take]
theorem size_take (s : ByteArray) (n : Nat) (h : n ≤ s.size) : (s.extract 0 n).size = n := by
  simp [ByteArray.size_extract]
  omega
/-- c, n times -/
def rep (n : Nat) (c : Int) : ByteArray := strOfNums (List.replicate n c)
theorem rep_size (n : Nat) (c : Int) : (rep n c).size = n := by simp [rep, strOfNums_size]
theorem strCells_rep (n : Nat) (c : Int) (hc : 0 ≤ c ∧ c ≤ 255) : strCells (rep n c) = List.replicate n (.int .u8 c) := by
  simp [strCells, rep, strOfNums_data]
  right
  omega
theorem rep_succ (n : Nat) (c : Int) : rep (n + 1) c = rep n c ++ strOfNums [c] := by
  apply Go.WideShapes.bytes_inj
  simp [rep, strOfNums, ByteArray.data_append, List.replicate_succ']

/-! ### lists of texts -/
def total (ss : List ByteArray) : Nat := (ss.map ByteArray.size).sum
def joinB : List ByteArray → ByteArray
  | [] => ByteArray.empty
  | s :: r => s ++ joinB r
theorem bytes_assoc (a b c : ByteArray) : a ++ b ++ c = a ++ (b ++ c) := by
  apply Go.WideShapes.bytes_inj
  simp [ByteArray.data_append]
theorem bytes_nil (a : ByteArray) : a ++ ByteArray.empty = a := by
  apply Go.WideShapes.bytes_inj
  simp
theorem nil_bytes (a : ByteArray) : ByteArray.empty ++ a = a := by
  apply Go.WideShapes.bytes_inj
  simp
theorem joinB_size : ∀ ss, (joinB ss).size = total ss
  | [] => rfl
  | s :: r => by
    have := joinB_size r
    simp only [total] at this
    simp [joinB, total, ByteArray.size_append, this]
theorem joinB_append : ∀ a b, joinB (a ++ b) = joinB a ++ joinB b
  | [], b => (nil_bytes _).symm
  | s :: r, b => by simp [joinB, joinB_append r b, bytes_assoc]
theorem take_moreT (ss : List ByteArray) (k : Nat) (h : k < ss.length) : ss.take (k + 1) = ss.take k ++ [ss.getD k ByteArray.empty] := by
  rw [List.take_succ_eq_append_getElem h, List.getD_eq_getElem?_getD, List.getElem?_eq_getElem h]
  rfl
theorem joinB_take (ss : List ByteArray) (k : Nat) (h : k < ss.length) : joinB (ss.take (k + 1)) = joinB (ss.take k) ++ ss.getD k ByteArray.empty := by
  rw [take_moreT ss k h, joinB_append]
  simp [joinB]
theorem total_append (a b : List ByteArray) : total (a ++ b) = total a + total b := by simp [total]
theorem total_take (ss : List ByteArray) (k : Nat) (h : k < ss.length) : total (ss.take (k + 1)) = total (ss.take k) + (ss.getD k ByteArray.empty).size := by
  rw [take_moreT ss k h, total_append]
  simp [total]
theorem total_le (ss : List ByteArray) (k : Nat) : total (ss.take k) ≤ total ss := by
  have := total_append (ss.take k) (ss.drop k)
  rw [List.take_append_drop] at this
  omega

/-- a slice of texts that reads as a list, in a block that meets C -/
def Strs (C : Nat → Prop) (w : World) (a : Option Addr) (len : Nat) (ss : List ByteArray) : Prop :=
  ss.length = len ∧ (0 < len → ∃ b off, a = some ⟨b, off, none⟩ ∧ C b ∧ ∀ i, i < len → w.cell? ⟨b, off + i, none⟩ = some (.string (ss.getD i ByteArray.empty)))

/-- texts that a call has laid in a block of its own -/
theorem strs_made {C : Nat → Prop} {w : World} {b : Nat} {vs : List Value} {ss : List ByteArray} {len : Nat} (hb : w.heap[b]? = some (.cells vs.toArray 9 (0, 0))) (hv : vs = ss.map Value.string) (hl : ss.length = len) (hC : C b) : Strs C w (some ⟨b, 0, none⟩) len ss := by
  refine ⟨hl, fun _ => ⟨b, 0, rfl, hC, fun i hi => ?_⟩⟩
  subst hv
  rw [Nat.zero_add, cell_of_row w b i _ _ _ hb]
  have hi' : i < ss.length := by omega
  simp [List.getD_eq_getElem?_getD, hi']

theorem Strs.below {C C' : Nat → Prop} {w w' : World} {a : Option Addr} {len : Nat} {ss : List ByteArray} (h : Strs C w a len ss) (hb : ∀ b, C b → C' b ∧ w'.heap[b]? = w.heap[b]?) : Strs C' w' a len ss := by
  refine ⟨h.1, fun hp => ?_⟩
  obtain ⟨b, off, e, hC, hc⟩ := h.2 hp
  exact ⟨b, off, e, (hb b hC).1, fun i hi => (World.cell?_of_block (a := ⟨b, off + i, none⟩) (hb b hC).2).trans (hc i hi)⟩

open Go.ChangeShapes Go.WideShapes Go.ChangeAt in
/-- an argument that is a slice of texts -/
theorem open_slice_strs {H : Type} {enc : TypeId × Value → H} {t e : TypeId} {W : World} {a : Option Addr} {len cap : Nat} {d : DataW H} {p : List MemPlace}
    (ht : Tryd.prog.underlying t = some (.slice e)) (he : Tryd.prog.underlying e = some .string) (hc : Tryd.prog.cellsOf e = 1)
    (h : DataW.Trod enc Tryd.prog W 0 (fun _ => true) true t (.slice a len cap) d p) : ∃ ss, (len ≤ cap ∧ cap ≤ maxLen ∧ (∀ s ∈ ss, s.size ≤ maxLen) ∧ Strs (fun b => b < W.heap.size) W a len ss) ∧ ((ss = [] ∧ d = .nil) ∨ ∃ sp, d = .slice (strs ss) sp) := by
  obtain ⟨fuel, hf⟩ := h
  rcases open_strings ht he hc hf with ⟨hcs, hd⟩ | ⟨x, l, c, ss, hcs, _, hl, hm, hz, hx, hcell, hws⟩
  · simp [Value.cells] at hcs
    obtain ⟨rfl, rfl, rfl⟩ := hcs
    simp only [Prod.mk.injEq] at hd
    exact ⟨[], ⟨Nat.le_refl _, Nat.zero_le _, fun s hs => absurd hs (by simp), rfl, fun h => absurd h (by omega)⟩, .inl ⟨rfl, hd.1⟩⟩
  · simp [Value.cells] at hcs
    obtain ⟨rfl, rfl, rfl⟩ := hcs
    have hz' : ss.length = cap := by simpa using hz
    have hget : ∀ i, i < len → (ss.take len).getD i ByteArray.empty = ss.getD i ByteArray.empty := fun i hi => by
      simp [List.getD_eq_getElem?_getD, hi]
    simp only [Prod.mk.injEq] at hx
    refine ⟨ss.take len, ⟨hl, hm, fun s hs => hws s (List.mem_of_mem_take hs), by simp; omega, fun hp => ?_⟩, .inr ⟨_, hx.1⟩⟩
    obtain ⟨b, off, spot⟩ := x
    have h0 := hcell 0 (by omega)
    have hspot : spot = none := by simpa [Addr.add] using World.cell?_spot h0
    subst hspot
    rw [Addr.add_lit] at h0
    refine ⟨b, off, rfl, cell_lt h0, fun i hi => ?_⟩
    have := hcell i (by omega)
    rw [Addr.add_lit] at this
    rw [hget i hi]
    exact this
open Go.ChangeShapes Go.WideShapes Go.ChangeAt in
theorem upto_strs {H : Type} {l : List (DataW H)} {d : DataW H} {ss : List ByteArray} (hk : Rows.uptoSmall H l = true) (hm : d ∈ l) (h : (ss = [] ∧ d = .nil) ∨ ∃ sp, d = .slice (strs ss) sp) : total ss ≤ 1048576 := by
  have h1 : Rows.uptoBulkAll l ≤ 1048576 := of_decide_eq_true hk
  have h2 := upto_le hm
  rcases h with ⟨rfl, _⟩ | ⟨sp, rfl⟩
  · decide
  · have e : ∀ ss : List ByteArray, total ss ≤ Rows.uptoBulkAll (strs (H := H) ss) := fun ss => by
      induction ss with
      | nil => simp [total]
      | cons s r ih =>
        have e1 : s.data.toList.length = s.size := by simp
        simp only [strs, total, List.map_cons, List.sum_cons, Rows.uptoBulkAll, Rows.uptoBulk] at ih ⊢
        omega
    have h3 := e ss
    simp only [Rows.uptoBulk] at h2
    omega
end Go.Proofs.YthiiinbkkjacbaaDoor

/- Contracts of strings.Builder's methods at this program: copyCheck, WriteByte, WriteString, String, over a builder that the call has laid itself. -/
namespace Go.Proofs.YthiiinbkkjacbaaDoor
open Go.RowKit Go.Lib

theorem sizeBuilder : (Tryd.prog.info? 67).map (·.size) = some 2 := by kernel_rfl
theorem liesBuilder : liesAt Tryd.prog Tryd.prog.depth 67 (2 / Tryd.prog.cellsOf 67) 0 67 1 = true := by kernel_rfl

/-- a builder in block b that holds the text s -/
def Holds (w : World) (B b : Nat) (s : ByteArray) : Prop := IsBuilderF 67 5 B b (strCells s) w
/-- the same, used -/
def Used (w : World) (B b : Nat) (s : ByteArray) : Prop := BuilderAtF 67 5 B b (.pointer (some ⟨b, 0, none⟩)) (strCells s) w

/-- what a write leaves as it was: all but the builder's block, and rows of bytes -/
structure KeepB (b : Nat) (w w' : World) : Prop where
  size : w.heap.size ≤ w'.heap.size
  block : ∀ k, k < w.heap.size → k ≠ b → (∀ cs fr, w.heap[k]? ≠ some (.cells cs 5 fr)) → w'.heap[k]? = w.heap[k]?
theorem KeepB.refl (b : Nat) (w : World) : KeepB b w w := ⟨Nat.le_refl _, fun _ _ _ _ => rfl⟩
theorem KeepB.trans {b : Nat} {w1 w2 w3 : World} (h : KeepB b w1 w2) (k : KeepB b w2 w3) : KeepB b w1 w3 :=
  ⟨Nat.le_trans h.size k.size, fun i h1 h2 h3 => (k.block i (Nat.lt_of_lt_of_le h1 h.size) h2 fun cs fr => by rw [h.block i h1 h2 h3]; exact h3 cs fr).trans (h.block i h1 h2 h3)⟩
theorem KeepB.set (b i : Nat) (w : World) (v : Value) : KeepB b w (w.setCell ⟨b, i, none⟩ v) := ⟨by simp [World.setCell], fun k _ h2 _ => heap_setCell_other _ _ _ _ h2⟩
theorem KeepB.of_below {b : Nat} {w w' : World} (h : Below w.heap.size w w') : KeepB b w w' := ⟨h.size, fun k hk _ _ => h.block k hk⟩
theorem KeepB.grown {B b n : Nat} {w w' : World} {v : Value} {xs : List Value} (hown : w.ownsRowF B 5 1 v n xs) (hg : w.grownBy w' v.ownBlock) : KeepB b w w' := by
  refine ⟨hg.size, fun k h1 _ h3 => hg.block k h1 fun e => ?_⟩
  rcases hown.2 with ⟨rfl, _⟩ | ⟨g, cap, cur, fz, rfl, _, hh, _⟩
  · simp [Value.ownBlock] at e
  · simp only [Value.ownBlock, Option.some.injEq] at e
    subst e
    exact h3 _ _ hh

set_option maxHeartbeats 1000000 in
set_option maxRecDepth 100000 in
theorem check_used (b : Nat) (w : World) (h0 : w.cell? ⟨b, 0, none⟩ = some (.pointer (some ⟨b, 0, none⟩))) :
    Calls Tryd.prog 69 #[.pointer (some ⟨b, 0, none⟩)] w fun e w' => e = .returned (.tuple #[]) ∧ w = w' := by
  obtain ⟨j, hj, _⟩ := Option.map_eq_some_iff.1 sizeBuilder
  go_enter Tryd.func69, Tryd.ntmps69
  go_wp2
  rw [run_neq_ptr_same w _ Tryd.underlying65 hj]
  go_wp2
  go_end0
  exact ⟨rfl, rfl⟩
set_option maxHeartbeats 1000000 in
set_option maxRecDepth 100000 in
theorem check_fresh (b : Nat) (w : World) (h0 : w.cell? ⟨b, 0, none⟩ = some (.pointer none)) (hsh : w.shape? b = some (67, 2)) (hfz : w.frozen? ⟨b, 0, none⟩ = false) :
    Calls Tryd.prog 69 #[.pointer (some ⟨b, 0, none⟩)] w fun e w' => e = .returned (.tuple #[]) ∧ w.setCell ⟨b, 0, none⟩ (.pointer (some ⟨b, 0, none⟩)) = w' := by
  obtain ⟨j, hj, hjs⟩ := Option.map_eq_some_iff.1 sizeBuilder
  go_enter Tryd.func69, Tryd.ntmps69
  go_wp2
  rw [run_to_unsafe w ⟨b, 0, none⟩ Tryd.underlying65 Tryd.underlying105 hj (by rw [hjs]; decide) hsh (Nat.zero_lt_succ 1)]
  simp only [Result.andThen]
  rw [Oper.upon_value]
  go_wp2
  rw [run_callFunc_extern Tryd.func77 (by kernel_rfl) (by kernel_rfl) (by kernel_rfl) (e := Extern.AbiNoEscape.same) (by kernel_rfl)]
  rw [run_noEscape]
  simp only [Result.andThen]
  rw [Oper.upon_value]
  go_wp2
  rw [run_from_unsafe w ⟨b, 0, none⟩ Tryd.underlying105 Tryd.underlying65 hj hsh liesBuilder]
  simp only [Result.andThen]
  rw [Oper.upon_value]
  go_wp2
  go_end0
  exact ⟨rfl, rfl⟩
theorem check_calls {B b : Nat} {s : ByteArray} {w : World} (h : Holds w B b s) :
    Calls Tryd.prog 69 #[.pointer (some ⟨b, 0, none⟩)] w fun e w' => e = .returned (.tuple #[]) ∧ Used w' B b s ∧ Below B w w' ∧ KeepB b w w' := by
  rcases h with h | h
  · refine (check_fresh b w h.cell0 h.shape h.frozen0).mono ?_
    rintro e w' ⟨rfl, rfl⟩
    exact ⟨rfl, h.used _, (Below.refl B w).setCell (p := ⟨b, 0, none⟩) h.1 _, KeepB.set _ _ _ _⟩
  · refine (check_used b w h.cell0).mono ?_
    rintro e w' ⟨rfl, rfl⟩
    exact ⟨rfl, h, Below.refl B _, KeepB.refl _ _⟩

/-- a builder behind a store of its grown row -/
theorem used_put {B b : Nat} {t : ByteArray} {w w1 w2 : World} {v v' : Value} (hB : B ≤ b) (hlow : Below B w w1) (hbl : B ≤ w1.heap.size) (hbk : w1.heap[b]? = some (.cells #[.pointer (some ⟨b, 0, none⟩), v] 67 (0, 0)))
    (hne : v.ownBlock ≠ some b) (hown : ∀ k, v.ownBlock = some k → B ≤ k) (hg : w1.grownBy w2 v.ownBlock) (hown' : w2.ownsRowF B 5 1 v' (strCells t).length (strCells t)) :
    Holds (w2.setCell ⟨b, 1, none⟩ v') B b t ∧ Below B w (w2.setCell ⟨b, 1, none⟩ v') := by
  have hlt : b < w1.heap.size := by
    rcases Nat.lt_or_ge b w1.heap.size with h' | h'
    · exact h'
    · simp [Array.getElem?_eq_none h'] at hbk
  have hb2 : w2.heap[b]? = some (.cells #[.pointer (some ⟨b, 0, none⟩), v] 67 (0, 0)) := by
    rw [hg.block b hlt (fun e => hne e.symm)]
    exact hbk
  exact ⟨.inr (BuilderAtF.put (T := 67) (e := 5) hB hb2 (bs' := strCells t) hown' (by decide)), (hlow.grown hg hbl hown).setCell (p := ⟨b, 1, none⟩) hB _⟩

set_option maxHeartbeats 2000000 in
set_option maxRecDepth 100000 in
theorem wstring_calls {B b : Nat} {s : ByteArray} {w : World} (h : Holds w B b s) (t : ByteArray) (hs : s.size ≤ 1073741824) (ht : t.size ≤ 1073741824) (hBw : B ≤ w.heap.size) :
    Calls Tryd.prog 42 #[.pointer (some ⟨b, 0, none⟩), .string t] w fun e w' => e = .returned (.tuple #[.int .i64 t.size, .nilIface]) ∧ Holds w' B b (s ++ t) ∧ Below B w w' ∧ KeepB b w w' := by
  obtain ⟨i0, hi, hz0, hz1, hz2⟩ := info_parts infoByte
  have hl : (strCells s).length = s.size := strCells_length s
  go_enter Tryd.func42, Tryd.ntmps42
  go_wp2_with fail
  refine (check_calls h).mono ?_
  rintro e w1 ⟨rfl, h1, hb1, hkb⟩
  obtain ⟨hB, v, hbk, hown, hne⟩ := h1
  have c1 : w1.cell? ⟨b, 1, none⟩ = some v := by rw [cell_of_heap hbk]; rfl
  have hbl : B ≤ w1.heap.size := Nat.le_trans hBw hb1.size
  rw [hl] at hown
  go_wp2_with (at_builtin; refine wpList_append_own_stringF _ rfl _ _ 50 9 rfl B 5 i0 Tryd.underlying50 Tryd.underlying9 hi hz0 hz1 hz2 _ _ _ rfl hown t rfl ?c3 ?c4 hbl ?_)
  case c3 => unfold maxLen; omega
  case c4 => omega
  intro v' w2 hown' hg _
  have HKB := hidden ((hkb.trans (KeepB.grown (b := b) hown hg)).trans (KeepB.set b 1 w2 v'))
  clear hkb
  have hfz : w2.frozen? ⟨b, 1, none⟩ = false := by
    refine frozen_of_heap (cs := #[.pointer (some ⟨b, 0, none⟩), v]) (T := 67) ?_ 1
    rw [hg.block b (by
      rcases Nat.lt_or_ge b w1.heap.size with h' | h'
      · exact h'
      · simp [Array.getElem?_eq_none h'] at hbk) (fun e => hne e.symm)]
    exact hbk
  have d1 : w2.cell? ⟨b, 1, none⟩ = some v := by
    rw [cell_of_heap (cs := #[.pointer (some ⟨b, 0, none⟩), v]) (T := 67) (fr := (0, 0))]
    · rfl
    · rw [hg.block b (by
        rcases Nat.lt_or_ge b w1.heap.size with h' | h'
        · exact h'
        · simp [Array.getElem?_eq_none h'] at hbk) (fun e => hne e.symm)]
      exact hbk
  have H := hidden (used_put (t := s ++ t) hB hb1 hbl hbk hne (fun k hk => (hown.lt k hk).1) hg (by rw [strCells_length, ByteArray.size_append, strCells_add]; exact hown'))
  obtain ⟨ao, n', cap, rfl⟩ : ∃ ao n' cap, v' = .slice ao n' cap := by
    rcases hown'.2 with ⟨hv, _⟩ | ⟨g, cap, cur, fz, hv, _⟩
    · exact ⟨_, _, _, hv⟩
    · exact ⟨_, _, _, hv⟩
  clear hown hown' hg hbk hb1 hl
  go_wp2
  go_ret2
  exact ⟨rfl, H.out.1, H.out.2, HKB.out⟩

theorem strCells_one (n : Int) (h0 : 0 ≤ n) (h1 : n < 256) : strCells (strOfNums [n]) = [.int .u8 n] := by
  simp [strCells, strOfNums_data]
  omega
set_option maxHeartbeats 2000000 in
set_option maxRecDepth 100000 in
theorem wbyte_calls {B b : Nat} {s : ByteArray} {w : World} (h : Holds w B b s) (n : Int) (h0 : 0 ≤ n) (h1 : n < 256) (hs : s.size ≤ 1073741824) (hBw : B ≤ w.heap.size) :
    Calls Tryd.prog 44 #[.pointer (some ⟨b, 0, none⟩), .int .u8 n] w fun e w' => e = .returned .nilIface ∧ Holds w' B b (s ++ strOfNums [n]) ∧ Below B w w' ∧ KeepB b w w' := by
  obtain ⟨i0, hi, hz0, hz1, hz2⟩ := info_parts infoByte
  have hl : (strCells s).length = s.size := strCells_length s
  have hone := hidden (strCells_one n h0 h1)
  go_enter Tryd.func44, Tryd.ntmps44
  go_wp2_with fail
  refine (check_calls h).mono ?_
  rintro e w1 ⟨rfl, h1, hb1, hkb⟩
  obtain ⟨hB, v, hbk, hown, hne⟩ := h1
  have c1 : w1.cell? ⟨b, 1, none⟩ = some v := by rw [cell_of_heap hbk]; rfl
  have hbl : B ≤ w1.heap.size := Nat.le_trans hBw hb1.size
  rw [hl] at hown
  go_wp2_with (at_builtin; refine wpList_append_ownF _ rfl _ _ 50 rfl B 5 i0 (.int .u8 0) 1 1 Tryd.underlying50 hi hz0 hz1 hz2 rfl (by decide) _ _ _ rfl (hown.alloc _) ⟨w1.heap.size, 0, none⟩ 1 1 [.int .u8 n] rfl rfl ?c1 ?c2 ?c3 ?c4 ?c5 ?_)
  case c1 =>
    intro j u hj
    match j, hj with
    | 0, hj => simp at hj; subst hj; simp [Addr.add]
  case c2 => intro u hu; simp at hu; subst hu; rfl
  case c3 => unfold maxLen; omega
  case c4 => omega
  case c5 => simp; omega
  intro v' w2 hown' hg _
  have HKB := hidden (((hkb.trans (KeepB.of_below ((Below.refl w1.heap.size w1).alloc (Nat.le_refl _) (.cells #[.int .u8 n] 5)))).trans (KeepB.grown (b := b) (hown.alloc _) hg)).trans (KeepB.set b 1 w2 v'))
  clear hkb
  have hlt : b < w1.heap.size := by
    rcases Nat.lt_or_ge b w1.heap.size with h' | h'
    · exact h'
    · simp [Array.getElem?_eq_none h'] at hbk
  have hbk' := hbk
  rw [← alloc_old w1 (.cells #[.int .u8 n] 5) b hlt] at hbk'
  have hb2 := hg.block b (by simp; omega) (fun e => hne e.symm)
  rw [hbk'] at hb2
  have hfz : w2.frozen? ⟨b, 1, none⟩ = false := frozen_of_heap hb2 1
  have d1 : w2.cell? ⟨b, 1, none⟩ = some v := by rw [cell_of_heap hb2]; rfl
  have H := hidden (used_put (t := s ++ strOfNums [n]) hB (hb1.alloc hbl _) (by simp; omega) hbk' hne (fun k hk => (hown.lt k hk).1) hg (by
    rw [strCells_length, ByteArray.size_append, strCells_add, hone.out, strOfNums_size]; exact hown'))
  obtain ⟨ao, n', cap, rfl⟩ : ∃ ao n' cap, v' = .slice ao n' cap := by
    rcases hown'.2 with ⟨hv, _⟩ | ⟨g, cap, cur, fz, hv, _⟩
    · exact ⟨_, _, _, hv⟩
    · exact ⟨_, _, _, hv⟩
  clear hown hown' hg hbk hb1 hl hbk' hb2
  go_wp2
  go_ret
  exact ⟨rfl, H.out.1, H.out.2, HKB.out⟩
end Go.Proofs.YthiiinbkkjacbaaDoor

/- The contract of strings.Builder's String at this program: the library's, laid at this program's numbers. -/
namespace Go.Proofs.YthiiinbkkjacbaaDoor
open Go.RowKit Go.Lib Go.Shelf

def textRen : Go.Shelf.Ren := ⟨fun | 169 => 45 | n => n, fun | 70 => 65 | 9 => 9 | 0 => 0 | 72 => 67 | 37 => 50 | 127 => 99 | 3 => 3 | 5 => 5 | n => n, fun | n => n⟩
theorem textLays : Go.Proofs.Lays.n169 Tryd.prog textRen := {
  mixed := by kernel_rfl
  f169 := Tryd.func45.trans (congrArg some (by kernel_rfl))
  t0 := Tryd.underlying0
  a0 := Tryd.isAgg0
  z0 := Tryd.sizeOf0
  v0 := Tryd.zeroValue0
  t3 := Tryd.underlying3
  a3 := Tryd.isAgg3
  z3 := Tryd.sizeOf3
  v3 := Tryd.zeroValue3
  t9 := Tryd.underlying9
  a9 := Tryd.isAgg9
  z9 := Tryd.sizeOf9
  v9 := Tryd.zeroValue9
  t37 := Tryd.underlying50
  a37 := Tryd.isAgg50
  z37 := Tryd.sizeOf50
  v37 := Tryd.zeroValue50
  t70 := Tryd.underlying65
  a70 := Tryd.isAgg65
  z70 := Tryd.sizeOf65
  v70 := Tryd.zeroValue65
  t72 := Tryd.underlying67
  a72 := Tryd.isAgg67
  z72 := Tryd.sizeOf67
  v72 := Tryd.zeroValue67
  t127 := Tryd.underlying99
  a127 := Tryd.isAgg99
  z127 := Tryd.sizeOf99
  v127 := Tryd.zeroValue99 }
theorem textExtra : Builder.Extra Tryd.prog textRen := {
  sizeBuilder := by kernel_rfl
  liesBuilder := by kernel_rfl
  t5 := Tryd.underlying5
  a5 := Tryd.isAgg5
  z5 := Tryd.sizeOf5
  v5 := Tryd.zeroValue5
  infoByte := by kernel_rfl
  cellsByte := by kernel_rfl
  sizeByte := by kernel_rfl
  neB5 := by decide }
theorem text_calls {B b : Nat} {s : ByteArray} {w : World} (h : Holds w B b s) (hBw : B ≤ w.heap.size) :
    Calls Tryd.prog 45 #[.pointer (some ⟨b, 0, none⟩)] w fun e w' => e = .returned (.string s) ∧ Below B w w' :=
  (Any.Builder_String_any_k textLays textExtra B b s.data.toList w h hBw).mono fun _ _ ⟨he, _, hb, _⟩ => ⟨he, hb⟩
end Go.Proofs.YthiiinbkkjacbaaDoor
