/- Texts and lists of texts: their cells, their sums, a slice of texts that came in, or that a call has laid in a block of its own. -/
import Derived.Test.YtfjedkebckfpfaaLater
import Derived.Test.YtfjedkebckfpfaaUpto
import Derived.Lib.AppendStr
import Derived.SliceStrings
namespace Go.Proofs.Ytfjedkebckfpfaa
open Go.RowKit Go.Lib

/-! ### texts and their cells -/
theorem strCells_add (s t : ByteArray) : strCells (s ++ t) = strCells s ++ strCells t := by
  simp [strCells, ByteArray.data_append]
theorem strCells_empty : strCells ByteArray.empty = [] := rfl
/-- the bytes of a text as numbers -/
def nums (s : ByteArray) : List Int := s.data.toList.map fun b => (b.toNat : Int)
theorem nums_length (s : ByteArray) : (nums s).length = s.size := by simp [nums]
theorem strOf_nums (s : ByteArray) : strOfNums (nums s) = s := by
  apply Go.WideShapes.bytes_inj
  rw [strOfNums_data, nums, List.map_map]
  conv => rhs; rw [← List.map_id s.data.toList]
  exact List.map_congr_left fun b _ => by simp
theorem strCells_get (s : ByteArray) (i : Nat) (h : i < s.size) : (strCells s)[i]? = some (.int .u8 ((nums s).getD i 0)) := by
  have h' : i < s.data.size := h
  have e : s.data[i]? = some s.data[i] := by simp
  simp [strCells, nums, e]
theorem strCells_byte (s : ByteArray) (i : Nat) (h : i < s.size) : (strCells s)[i]? = some (.int .u8 (s[i].toNat : Int)) := by
  have h' : i < s.data.size := h
  have e : s.data[i]? = some s.data[i] := by simp
  simp only [strCells, List.getElem?_map, Array.getElem?_toList, e]
  rfl
theorem strCells_take (s : ByteArray) (n : Nat) : strCells (s.extract 0 n) = (strCells s).take n := by
  simp [strCells, ByteArray.data_extract, List.map_take]
theorem size_take (s : ByteArray) (n : Nat) (h : n ≤ s.size) : (s.extract 0 n).size = n := by
  simp [ByteArray.size_extract]
  omega
/-- c, n times -/
def rep (n : Nat) (c : Int) : ByteArray := strOfNums (List.replicate n c)
theorem rep_size (n : Nat) (c : Int) : (rep n c).size = n := by simp [rep, strOfNums_size]
theorem strCells_rep (n : Nat) (c : Int) (hc : 0 ≤ c ∧ c ≤ 255) : strCells (rep n c) = List.replicate n (.int .u8 c) := by
  simp [strCells, rep, strOfNums_data]
  right
  omega
theorem rep_succ (n : Nat) (c : Int) : rep (n + 1) c = rep n c ++ strOfNums [c] := by
  apply Go.WideShapes.bytes_inj
  simp [rep, strOfNums, ByteArray.data_append, List.replicate_succ']

/-! ### lists of texts -/
def total (ss : List ByteArray) : Nat := (ss.map ByteArray.size).sum
def joinB : List ByteArray → ByteArray
  | [] => ByteArray.empty
  | s :: r => s ++ joinB r
theorem bytes_assoc (a b c : ByteArray) : a ++ b ++ c = a ++ (b ++ c) := by
  apply Go.WideShapes.bytes_inj
  simp [ByteArray.data_append]
theorem bytes_nil (a : ByteArray) : a ++ ByteArray.empty = a := by
  apply Go.WideShapes.bytes_inj
  simp
theorem nil_bytes (a : ByteArray) : ByteArray.empty ++ a = a := by
  apply Go.WideShapes.bytes_inj
  simp
theorem joinB_size : ∀ ss, (joinB ss).size = total ss
  | [] => rfl
  | s :: r => by
    have := joinB_size r
    simp only [total] at this
    simp [joinB, total, ByteArray.size_append, this]
theorem joinB_append : ∀ a b, joinB (a ++ b) = joinB a ++ joinB b
  | [], b => (nil_bytes _).symm
  | s :: r, b => by simp [joinB, joinB_append r b, bytes_assoc]
theorem take_more (ss : List ByteArray) (k : Nat) (h : k < ss.length) : ss.take (k + 1) = ss.take k ++ [ss.getD k ByteArray.empty] := by
  rw [List.take_succ_eq_append_getElem h, List.getD_eq_getElem?_getD, List.getElem?_eq_getElem h]
  rfl
theorem joinB_take (ss : List ByteArray) (k : Nat) (h : k < ss.length) : joinB (ss.take (k + 1)) = joinB (ss.take k) ++ ss.getD k ByteArray.empty := by
  rw [take_more ss k h, joinB_append]
  simp [joinB]
theorem total_append (a b : List ByteArray) : total (a ++ b) = total a + total b := by simp [total]
theorem total_take (ss : List ByteArray) (k : Nat) (h : k < ss.length) : total (ss.take (k + 1)) = total (ss.take k) + (ss.getD k ByteArray.empty).size := by
  rw [take_more ss k h, total_append]
  simp [total]
theorem total_le (ss : List ByteArray) (k : Nat) : total (ss.take k) ≤ total ss := by
  have := total_append (ss.take k) (ss.drop k)
  rw [List.take_append_drop] at this
  omega

/-- a slice of texts that reads as a list, in a block that meets C -/
def Strs (C : Nat → Prop) (w : World) (a : Option Addr) (len : Nat) (ss : List ByteArray) : Prop :=
  ss.length = len ∧ (0 < len → ∃ b off, a = some ⟨b, off, none⟩ ∧ C b ∧ ∀ i, i < len → w.cell? ⟨b, off + i, none⟩ = some (.string (ss.getD i ByteArray.empty)))

/-- texts that a call has laid in a block of its own -/
theorem strs_made {C : Nat → Prop} {w : World} {b : Nat} {vs : List Value} {ss : List ByteArray} {len : Nat} (hb : w.heap[b]? = some (.cells vs.toArray 9 (0, 0))) (hv : vs = ss.map Value.string) (hl : ss.length = len) (hC : C b) : Strs C w (some ⟨b, 0, none⟩) len ss := by
  refine ⟨hl, fun _ => ⟨b, 0, rfl, hC, fun i hi => ?_⟩⟩
  subst hv
  rw [Nat.zero_add, cell_of_row w b i _ _ _ hb]
  have hi' : i < ss.length := by omega
  simp [List.getD_eq_getElem?_getD, hi']

theorem Strs.below {C C' : Nat → Prop} {w w' : World} {a : Option Addr} {len : Nat} {ss : List ByteArray} (h : Strs C w a len ss) (hb : ∀ b, C b → C' b ∧ w'.heap[b]? = w.heap[b]?) : Strs C' w' a len ss := by
  refine ⟨h.1, fun hp => ?_⟩
  obtain ⟨b, off, e, hC, hc⟩ := h.2 hp
  exact ⟨b, off, e, (hb b hC).1, fun i hi => (World.cell?_of_block (a := ⟨b, off + i, none⟩) (hb b hC).2).trans (hc i hi)⟩

open Go.ChangeShapes Go.WideShapes Go.ChangeAt in
/-- an argument that is a slice of texts -/
theorem open_slice_strs {H : Type} {enc : TypeId × Value → H} {t e : TypeId} {W : World} {a : Option Addr} {len cap : Nat} {d : DataW H} {p : List MemPlace}
    (ht : Try.prog.underlying t = some (.slice e)) (he : Try.prog.underlying e = some .string) (hc : Try.prog.cellsOf e = 1)
    (h : DataW.Trod enc Try.prog W 0 (fun _ => true) true t (.slice a len cap) d p) : ∃ ss, (len ≤ cap ∧ cap ≤ maxLen ∧ (∀ s ∈ ss, s.size ≤ maxLen) ∧ Strs (fun b => b < W.heap.size) W a len ss) ∧ ((ss = [] ∧ d = .nil) ∨ ∃ sp, d = .slice (strs ss) sp) := by
  obtain ⟨fuel, hf⟩ := h
  rcases open_strings ht he hc hf with ⟨hcs, hd⟩ | ⟨x, l, c, ss, hcs, _, hl, hm, hz, hx, hcell, hws⟩
  · simp [Value.cells] at hcs
    obtain ⟨rfl, rfl, rfl⟩ := hcs
    simp only [Prod.mk.injEq] at hd
    exact ⟨[], ⟨Nat.le_refl _, Nat.zero_le _, fun s hs => absurd hs (by simp), rfl, fun h => absurd h (by omega)⟩, .inl ⟨rfl, hd.1⟩⟩
  · simp [Value.cells] at hcs
    obtain ⟨rfl, rfl, rfl⟩ := hcs
    have hz' : ss.length = cap := by simpa using hz
    have hget : ∀ i, i < len → (ss.take len).getD i ByteArray.empty = ss.getD i ByteArray.empty := fun i hi => by
      simp [List.getD_eq_getElem?_getD, hi]
    simp only [Prod.mk.injEq] at hx
    refine ⟨ss.take len, ⟨hl, hm, fun s hs => hws s (List.mem_of_mem_take hs), by simp; omega, fun hp => ?_⟩, .inr ⟨_, hx.1⟩⟩
    obtain ⟨b, off, spot⟩ := x
    have h0 := hcell 0 (by omega)
    have hspot : spot = none := by simpa [Addr.add] using World.cell?_spot h0
    subst hspot
    rw [Addr.add_lit] at h0
    refine ⟨b, off, rfl, cell_lt h0, fun i hi => ?_⟩
    have := hcell i (by omega)
    rw [Addr.add_lit] at this
    rw [hget i hi]
    exact this
open Go.ChangeShapes Go.WideShapes Go.ChangeAt in
theorem upto_strs {H : Type} {l : List (DataW H)} {d : DataW H} {ss : List ByteArray} (hk : Rows.uptoSmall H l = true) (hm : d ∈ l) (h : (ss = [] ∧ d = .nil) ∨ ∃ sp, d = .slice (strs ss) sp) : total ss ≤ 1048576 := by
  have h1 : Rows.uptoBulkAll l ≤ 1048576 := of_decide_eq_true hk
  have h2 := upto_le hm
  rcases h with ⟨rfl, _⟩ | ⟨sp, rfl⟩
  · decide
  · have e : ∀ ss : List ByteArray, total ss ≤ Rows.uptoBulkAll (strs (H := H) ss) := fun ss => by
      induction ss with
      | nil => simp [total]
      | cons s r ih =>
        have e1 : s.data.toList.length = s.size := by simp
        simp only [strs, total, List.map_cons, List.sum_cons, Rows.uptoBulkAll, Rows.uptoBulk] at ih ⊢
        omega
    have h3 := e ss
    simp only [Rows.uptoBulk] at h2
    omega
end Go.Proofs.Ytfjedkebckfpfaa
