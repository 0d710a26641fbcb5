/- A row of bytes that a call has laid itself and appends to; what the two Takes say, way by way. -/
import Derived.Test.YtkonmgfgnppmlaaDoorEscRead
import Derived.Test.YtkonmgfgnppmlaaDoorEscPut
import Derived.Laws.IdiomStrings
import Derived.Deep.LoopGhost
import Derived.WalkMore
namespace Go.Proofs.YtkonmgfgnppmlaaDoor
open Go.RowKit

/-- a slice of bytes, of block B or later, that holds the list -/
def Row (w : World) (B : Nat) (v : Value) (l : List UInt8) : Prop := w.ownsRow B 5 1 v l.length (Lib.byteCells l)
theorem Row.nil (w : World) (B : Nat) : Row w B (.slice none 0 0) [] := World.ownsRow_nil w B _ 1
theorem Row.made (w : World) (B : Nat) (hB : B ≤ w.heap.size) : Row (w.alloc (.cells #[] 5)) B (.slice (some ⟨w.heap.size, 0, none⟩) 0 0) [] := World.ownsRow_made w #[] 0 hB (by decide) rfl
theorem Row.later {w w' : World} {B : Nat} {v : Value} {l : List UInt8} (h : Row w B v l) (hb : Below w.heap.size w w') : Row w' B v l :=
  World.ownsRow.kept (row := none) h ⟨hb.os, hb.tape, hb.output, hb.size, fun k hk _ => hb.block k hk⟩ (by cases v.ownBlock <;> simp)
theorem Row.form {w : World} {B : Nat} {v : Value} {l : List UInt8} (h : Row w B v l) : ∃ a c, v = .slice a l.length c := by
  rcases h.2 with ⟨rfl, h0⟩ | ⟨g, cap, cur, rfl, _⟩
  · exact ⟨_, _, by rw [h0]⟩
  · exact ⟨_, _, rfl⟩
theorem Row.text {w : World} {B : Nat} {v : Value} {l : List UInt8} (h : Row w B v l) : (convert 35 9 v).run Tryd.prog w = .ok (.string ⟨l.toArray⟩) w := by
  rcases h.2 with ⟨rfl, h0⟩ | ⟨g, cap, cur, rfl, _⟩
  · rw [run_convert_bytes_nil w 35 5 Tryd.underlying35 Tryd.underlying5 _ _ 9 Tryd.underlying9]
    rw [List.eq_nil_of_length_eq_zero h0]
    rfl
  · refine run_convert_bytes_back w _ _ _ _ _ l Tryd.underlying35 Tryd.underlying5 Tryd.underlying9 fun j hj => ?_
    exact World.ownsRow.cells (g := g) h rfl j _ (by simp [Lib.byteCells, hj])
theorem byteCells_snoc (l : List UInt8) (n : Nat) (h : n < 256) : Lib.byteCells (l ++ [UInt8.ofNat n]) = Lib.byteCells l ++ [.int .u8 (n : Int)] := by
  simp [Lib.byteCells]
  omega
theorem Row.more {w' : World} {B : Nat} {v' : Value} {l : List UInt8} {n : Nat} (hn : n < 256) (h : w'.ownsRow B 5 1 v' (l.length + 1) (Lib.byteCells l ++ [.int .u8 (n : Int)])) : Row w' B v' (l ++ [UInt8.ofNat n]) := by
  unfold Row
  rw [byteCells_snoc l n hn, List.length_append]
  exact h

/-- a text, an index and why not, handed back -/
def T3 (x : List UInt8 × Nat × Int) : Ending := .returned (.tuple #[.string ⟨x.1.toArray⟩, .int .i64 (x.2.1 : Int), .int .i64 x.2.2])
def T2 (x : List UInt8 × Int) : Ending := .returned (.tuple #[.string ⟨x.1.toArray⟩, .int .i64 x.2])
theorem take_range {l : List UInt8} {i : Int} (h : i < 0 ∨ (l.length : Int) < i) : takeV l i = ([], 0, 2) := by rw [takeV, if_pos h]
theorem take_none {l : List UInt8} {k : Nat} (h : k ≤ l.length) (h' : (l.drop k).head? ≠ some 34) : takeV l k = ([], 0, 5) := by
  rw [takeV, if_neg (by omega), Int.toNat_natCast, if_neg h']
theorem take_main {l : List UInt8} {k : Nat} (h : k ≤ l.length) (h' : (l.drop k).head? = some 34) : takeV l k = comb [] (k + 1) (scanV (l.length + 1) (l.drop (k + 1))) := by
  rw [takeV, if_neg (by omega), Int.toNat_natCast, if_pos h']
theorem drop_at (s : ByteArray) (k : Nat) (h : k < s.size) : s.data.toList.drop k = s[k] :: s.data.toList.drop (k + 1) := by
  rw [List.drop_eq_getElem_cons (by simpa using h)]; rfl
theorem drop_end (s : ByteArray) (k : Nat) (h : ¬ k < s.size) : s.data.toList.drop k = [] := by
  rw [List.drop_eq_nil_iff]
  have : s.data.toList.length = s.size := by simp
  omega
theorem rest_data (s : ByteArray) (k : Nat) : (s.extract k s.size).data.toList = s.data.toList.drop k := by
  have : s.data.toList.length = s.size := by simp
  simp [List.extract_eq_take_drop]
  rw [List.take_of_length_le]
  simp
theorem not_quote {c : UInt8} (h : c ≠ 34) : ((c.toNat : Int) == 34) = false := by
  simp only [beq_eq_false_iff_ne, ne_eq]
  intro e
  exact h (UInt8.toNat_inj.1 (by have : (34 : UInt8).toNat = 34 := rfl; omega))

/-- how a loop stands: behind place k, with what has been read -/
def Stand (l : List UInt8) (x : List UInt8 × Nat × Int) (k : Nat) (out : List UInt8) : Prop := ∃ f, l.length - k ≤ f ∧ x = comb out k (scanV (f + 1) (l.drop k)) ∧ out.length ≤ k
theorem stand_none {s : ByteArray} {x : List UInt8 × Nat × Int} {k : Nat} {out : List UInt8} (h : Stand s.data.toList x k out) (hk : ¬ k < s.size) : x = ([], 0, 4) := by
  obtain ⟨f, _, rfl, _⟩ := h
  rw [drop_end s k hk]
  rfl
theorem stand_end {s : ByteArray} {x : List UInt8 × Nat × Int} {k : Nat} {out : List UInt8} (h : Stand s.data.toList x k out) (hk : k < s.size) (hc : s[k] = 34) : x = (out, k + 1, 0) := by
  obtain ⟨f, _, rfl, _⟩ := h
  rw [drop_at s k hk, hc]
  exact comb_end _ _ _ _
theorem stand_ways {s : ByteArray} {x : List UInt8 × Nat × Int} {k : Nat} {out : List UInt8} (h : Stand s.data.toList x k out) (hk : k < s.size) (hc : s[k] ≠ 34) :
    (∃ n m : Nat, n < 256 ∧ 0 < m ∧ k + m ≤ s.size ∧ rdV (s.data.toList.drop k) = ((n : Int), (m : Int), 0) ∧ Stand s.data.toList x (k + m) (out ++ [UInt8.ofNat n])) ∨
    (∃ e : Int, (e = 3 ∨ e = 4) ∧ rdV (s.data.toList.drop k) = (0, 0, e) ∧ x = ([], 0, e)) := by
  obtain ⟨f, hf, rfl, ho⟩ := h
  have hl : s.data.toList.length = s.size := by simp
  have e := drop_at s k hk
  rcases rd_ways (s.data.toList.drop k) (by rw [e]; simpa using hc) with ⟨n, hn, hr, hp⟩ | hr | hr
  · have hle := hp.length_le
    have hpos := chr_pos n hn
    rw [List.length_drop] at hle
    obtain ⟨f, rfl⟩ : ∃ g, f = g + 1 := ⟨f - 1, by omega⟩
    refine .inl ⟨n, _, hn, hpos, by omega, hr, f, by omega, ?_, by rw [List.length_append, List.length_singleton]; omega⟩
    rw [e] at hr ⊢
    rw [comb_more _ _ _ _ _ hc n hr, ← e, List.drop_drop]
  · refine .inr ⟨3, .inl rfl, hr, ?_⟩
    rw [e] at hr ⊢
    rw [comb_bad _ _ _ _ _ hc (by rw [hr]; decide), hr]
  · refine .inr ⟨4, .inr rfl, hr, ?_⟩
    rw [e] at hr ⊢
    rw [comb_bad _ _ _ _ _ hc (by rw [hr]; decide), hr]
theorem stand_start {s : ByteArray} {k : Nat} (h : k < s.size) (hc : s[k] = 34) : Stand s.data.toList (takeV s.data.toList k) (k + 1) [] := by
  have hl : s.data.toList.length = s.size := by simp
  refine ⟨s.data.toList.length, by omega, ?_, by simp⟩
  exact take_main (by omega) (by rw [drop_at s k h, hc]; rfl)
end Go.Proofs.YtkonmgfgnppmlaaDoor
