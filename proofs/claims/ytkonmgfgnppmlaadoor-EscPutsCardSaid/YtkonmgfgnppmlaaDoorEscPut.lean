/- Contracts of Put and the reference's Put. -/
import Derived.Test.YtkonmgfgnppmlaaDoorEscChar
import Derived.Test.YtkonmgfgnppmlaaDoorEscText
namespace Go.Proofs.YtkonmgfgnppmlaaDoor
open Go.RowKit

/-- the Chars of a text, and the text between quotation marks -/
def chrsB (l : List UInt8) : ByteArray := ⟨(chrs l).toArray⟩
def putB (s : ByteArray) : ByteArray := ⟨(putL s.data.toList).toArray⟩
theorem quote_size (l : List UInt8) : (strOfNums [34] ++ chrsB l).size = 1 + (chrs l).length := by
  rw [ByteArray.size_append, strOfNums_size]
  simp [chrsB, ByteArray.size]
theorem byte_at (s : ByteArray) (k : Nat) (h : k < s.size) : s.data.toList.take (k + 1) = s.data.toList.take k ++ [s[k]] := by
  rw [List.take_succ_eq_append_getElem (by simpa using h)]; rfl
theorem chrs_at (s : ByteArray) (k : Nat) (h : k < s.size) : strOfNums [34] ++ chrsB (s.data.toList.take k) ++ chrB (s[k].toNat : Int) = strOfNums [34] ++ chrsB (s.data.toList.take (k + 1)) := by
  apply Go.WideShapes.bytes_inj
  rw [byte_at s k h]
  simp [chrsB, ByteArray.data_append, chrB_data, chrs]
theorem put_end (s : ByteArray) (k : Nat) (h : ¬ k < s.size) : strOfNums [34] ++ chrsB (s.data.toList.take k) ++ strOfNums [34] = putB s := by
  rw [List.take_of_length_le (by simp; omega)]
  apply Go.WideShapes.bytes_inj
  simp [chrsB, putB, putL, ByteArray.data_append, strOfNums]
set_option maxHeartbeats 2000000 in
set_option maxRecDepth 100000 in
theorem rput_calls (s : ByteArray) (w : World) (hs : s.size ≤ 100000) :
    Calls Tryd.prog 10 #[.string s] w fun e w' => e = .returned (.string (putB s)) ∧ Below w.heap.size w w' := by
  have hq : (⟨#[34]⟩ : ByteArray) = strOfNums [34] := rfl
  go_enter Tryd.func10, Tryd.ntmps10
  go_wp2
  go_loopw [3, 4] (fun t i wr => ∃ k : Nat, k ≤ s.size ∧ i = .int .i64 k ∧ t = .string (strOfNums [34] ++ chrsB (s.data.toList.take k)) ∧ Below w.heap.size w wr) (fun _ i _ => s.size - (intOf i).toNat)
  case atStart => exact ⟨0, by omega, rfl, by rw [List.take_zero]; rfl, Below.refl _ _⟩
  case round =>
    obtain ⟨k, hk, rfl, rfl, hb⟩ := hrel
    have HB := hidden hb
    have hz := quote_size (s.data.toList.take k)
    have hz1 := chrs_le (s.data.toList.take k)
    have hz2 : (s.data.toList.take k).length ≤ k := List.length_take_le _ _
    have hz3 : (strOfNums [34] ++ chrsB (s.data.toList.take k)).size ≤ 1000000 := by omega
    clear hb hz hz1 hz2
    by_cases hlt : k < s.size
    · have hlk : decide ((k : Int) < s.size) = true := by simp; omega
      have hJ := hidden (chrs_at s k hlt)
      have hb0 : (s[k].toNat : Int) < 256 := by have := s[k].toNat_lt; omega
      have hc := hidden (fun W => rchar_calls (s[k].toNat : Int) W (by omega) hb0)
      have hcz := chrB_size (s[k].toNat : Int) (by omega) hb0
      generalize chrB (s[k].toNat : Int) = C at *
      generalize strOfNums [34] ++ chrsB (s.data.toList.take k) = J at *
      go_wp2_with fail
      refine (hc.out _).mono ?_
      rintro e w2 ⟨rfl, hb2⟩
      go_wp2
      go_roundw
      case rel => exact ⟨k + 1, by omega, by go_num, by rw [← hJ.out], below_after HB.out hb2⟩
      case measure => simp [intOf]; omega
    · have hlk : decide ((k : Int) < s.size) = false := by simp; omega
      have hJ := hidden (put_end s k hlt)
      have hj := hidden hq
      generalize strOfNums [34] ++ chrsB (s.data.toList.take k) = J at *
      clear hq
      go_wp2
      go_ret
      exact ⟨ret_s (by rw [← hJ.out, ← hj.out]), HB.out⟩

theorem fresh_holds (w : World) : Holds (w.alloc (.cells #[.pointer none, .slice none 0 0] 39)) w.heap.size w.heap.size ByteArray.empty := by
  exact .inl ⟨Nat.le_refl _, .slice none 0 0, heap_alloc_new w _, ⟨rfl, .inl ⟨rfl, rfl⟩⟩, by simp [Value.ownBlock]⟩

theorem Holds.later {w w' : World} {B b : Nat} {s : ByteArray} (h : Holds w B b s) (hb : Below w.heap.size w w') : Holds w' B b s := by
  have go : ∀ p, Lib.BuilderAtF 39 5 B b p (Lib.strCells s) w → Lib.BuilderAtF 39 5 B b p (Lib.strCells s) w' := fun p h => by
    have hlt := h.lt
    obtain ⟨hB, v, hbk, hown, hne⟩ := h
    exact ⟨hB, v, (hb.block b hlt).trans hbk, hown.kept (row := none) ⟨hb.os, hb.tape, hb.output, hb.size, fun k hk _ => hb.block k hk⟩ (by cases v.ownBlock <;> simp), hne⟩
  exact h.elim (fun h => .inl (go _ h)) (fun h => .inr (go _ h))

set_option maxHeartbeats 2000000 in
set_option maxRecDepth 100000 in
theorem put_calls (s : ByteArray) (w : World) (ht : Tab w) (hs : s.size ≤ 100000) :
    Calls Tryd.prog 9 #[.string s] w fun e w' => e = .returned (.string (putB s)) ∧ Below w.heap.size w w' := by
  have HT := hidden ht
  clear ht
  have hB0 := hidden (Nat.le_refl w.heap.size)
  go_enter Tryd.func9, Tryd.ntmps9
  go_wp2_with fail
  refine (wbyte_calls (fresh_holds w) 34 (by decide) (by decide) (by decide) (by simp)).mono ?_
  rintro e w1 ⟨rfl, h1, hb1⟩
  have HB1 := hidden (show Below w.heap.size w w1 from ((Below.refl _ _).alloc (Nat.le_refl _) _).trans hb1)
  have h1' : Holds w1 w.heap.size w.heap.size (strOfNums [34]) := h1
  have H1 := hidden h1'
  clear h1 h1' hb1
  go_wp2
  go_loopw [4, 8] (fun _ i wr => ∃ k : Nat, k ≤ s.size ∧ i = .int .i64 k ∧ Holds wr w.heap.size w.heap.size (strOfNums [34] ++ chrsB (s.data.toList.take k)) ∧ Below w.heap.size w wr) (fun _ i _ => s.size - (intOf i).toNat)
  case atStart => exact ⟨0, by omega, rfl, by rw [List.take_zero]; exact H1.out, HB1.out⟩
  case round =>
    obtain ⟨k, hk, rfl, hh, hb⟩ := hrel
    have HB := hidden hb
    have HH := hidden hh
    have hz := quote_size (s.data.toList.take k)
    have hz1 := chrs_le (s.data.toList.take k)
    have hz2 : (s.data.toList.take k).length ≤ k := List.length_take_le _ _
    have hz3 : (strOfNums [34] ++ chrsB (s.data.toList.take k)).size ≤ 1000000 := by omega
    clear hb hz hz1 hz2 hh
    by_cases hlt : k < s.size
    · have hlk : decide ((k : Int) < s.size) = true := by simp; omega
      have hJ := hidden (chrs_at s k hlt)
      have hb0 : (s[k].toNat : Int) < 256 := by have := s[k].toNat_lt; omega
      have hc := hidden (fun W ht => char_calls (s[k].toNat : Int) W ht (by omega) hb0)
      have hcz := chrB_size (s[k].toNat : Int) (by omega) hb0
      generalize chrB (s[k].toNat : Int) = C at *
      generalize strOfNums [34] ++ chrsB (s.data.toList.take k) = J at *
      go_wp2_with fail
      refine (hc.out _ (HT.out.below HB.out)).mono ?_
      rintro e w2 ⟨rfl, hb2⟩
      have hh2 := HH.out.later hb2
      have HH2 := hidden hh2
      clear hh2
      go_wp2_with fail
      refine (wstring_calls HH2.out C (by omega) (by omega) (by have := HB.out.size; have := hb2.size; omega)).mono ?_
      rintro e w3 ⟨rfl, h3, hb3⟩
      rw [hJ.out] at h3
      have H3 := hidden h3
      clear h3
      go_wp2
      go_roundw
      case rel => exact ⟨k + 1, by omega, by go_num, H3.out, (below_after HB.out hb2).trans hb3⟩
      case measure => simp [intOf]; omega
    · have hlk : decide ((k : Int) < s.size) = false := by simp; omega
      have hJ := hidden (put_end s k hlt)
      generalize strOfNums [34] ++ chrsB (s.data.toList.take k) = J at *
      go_wp2_with fail
      refine (wbyte_calls HH.out 34 (by decide) (by decide) (by omega) HB.out.size).mono ?_
      rintro e w2 ⟨rfl, h2, hb2⟩
      rw [hJ.out] at h2
      have H2 := hidden h2
      clear h2
      go_wp2_with fail
      refine (text_calls H2.out (by have := HB.out.size; have := hb2.size; omega)).mono ?_
      rintro e w3 ⟨rfl, hb3⟩
      go_wp2
      go_ret
      exact ⟨rfl, (HB.out.trans hb2).trans hb3⟩
end Go.Proofs.YtkonmgfgnppmlaaDoor
