/- Lines and words joined again: what stands behind k of them. -/
import Derived.Test.YtjkjbibfaekklaaWordKnows
namespace Go.Proofs.Ytjkjbibfaekklaa
open Go.RowKit

/-- the first k lines, each with a byte 10 behind it -/
def upLines (L : List (List UInt8)) (k : Nat) : List UInt8 := (L.take k).flatMap (· ++ [10])
theorem take_one {α : Type} (L : List α) (k : Nat) (h : k < L.length) : L.take (k + 1) = L.take k ++ [L[k]] := List.take_succ_eq_append_getElem h
theorem upLines_more (L : List (List UInt8)) (k : Nat) (h : k < L.length) : upLines L (k + 1) = upLines L k ++ L[k] ++ [10] := by
  unfold upLines
  rw [take_one L k h, List.flatMap_append]
  simp
theorem upLines_le (L : List (List UInt8)) (k : Nat) : (upLines L k).length ≤ (L.flatMap (· ++ [10])).length := by
  have h : L.flatMap (· ++ [10]) = upLines L k ++ (L.drop k).flatMap (· ++ [10]) := by
    unfold upLines
    rw [← List.flatMap_append, List.take_append_drop]
  rw [h]
  simp
theorem upLines_all (l : List UInt8) (k : Nat) (h : (linesGo l []).length ≤ k) : upLines (linesGo l []) k = feedEnd l := by
  unfold upLines
  rw [List.take_of_length_le h, lines_join l [] (by simp), List.nil_append]
theorem feedEnd_le (l : List UInt8) : (feedEnd l).length ≤ l.length + 1 := by
  unfold feedEnd
  split <;> simp
/-- the first k words with one blank between -/
def upWords (W : List (List UInt8)) (k : Nat) : List UInt8 := joinS (W.take k)
theorem upWords_zero (W : List (List UInt8)) : upWords W 0 = [] := rfl
theorem upWords_one (W : List (List UInt8)) (h : 0 < W.length) : upWords W 1 = W[0] := by
  unfold upWords
  rw [take_one W 0 h]
  simp [joinS, List.intercalate]
theorem upWords_more (W : List (List UInt8)) (k : Nat) (h : k < W.length) (hk : 0 < k) : upWords W (k + 1) = upWords W k ++ [32] ++ W[k] := by
  unfold upWords
  rw [take_one W k h, joinS_snoc]
  intro e
  have h2 : (W.take k).length = 0 := by rw [e]; rfl
  rw [List.length_take] at h2
  omega
def bulk (W : List (List UInt8)) : Nat := (W.map fun x => x.length + 1).sum
theorem bulk_take (W : List (List UInt8)) (k : Nat) : bulk (W.take k) ≤ bulk W := by
  have h : bulk W = bulk (W.take k) + bulk (W.drop k) := by
    unfold bulk
    rw [← List.sum_append, ← List.map_append, List.take_append_drop]
  omega
theorem joinS_le : ∀ W, (joinS W).length ≤ bulk W
  | [] => by simp [joinS, List.intercalate]
  | [a] => by simp [joinS, List.intercalate, bulk]
  | a :: b :: r => by
    have ih := joinS_le (b :: r)
    have e : joinS (a :: b :: r) = a ++ 32 :: joinS (b :: r) := by simp [joinS, List.intercalate]
    rw [e]
    simp [bulk] at ih ⊢
    omega
theorem words_bulk : ∀ l acc, bulk (wordsGo l acc) ≤ l.length + acc.length + 1
  | [], acc => by
    rw [wordsGo]
    split
    · simp [bulk]
    · simp [bulk]
  | x :: r, acc => by
    have h0 := words_bulk r []
    have h1 := words_bulk r (acc ++ [x])
    rw [wordsGo]
    split
    · split
      · simp at h0 ⊢
        omega
      · simp [bulk] at h0 ⊢
        omega
    · simp at h1 ⊢
      omega
theorem upWords_le (l : List UInt8) (k : Nat) : (upWords (wordsGo l []) k).length ≤ l.length + 1 := by
  have h1 := joinS_le ((wordsGo l []).take k)
  have h2 := bulk_take (wordsGo l []) k
  have h3 := words_bulk l []
  simp at h3
  unfold upWords
  omega
theorem upWords_all (l : List UInt8) (k : Nat) (h : (wordsGo l []).length ≤ k) : wordsGo (upWords (wordsGo l []) k) [] = wordsGo l [] := by
  unfold upWords
  rw [List.take_of_length_le h]
  exact words_joined _ (words_ok l [] (by simp))
theorem getD_map (L : List (List UInt8)) (k : Nat) (h : k < L.length) : (L.map txt).getD k ByteArray.empty = txt L[k] := by
  rw [List.getD_eq_getElem?_getD, List.getElem?_map, List.getElem?_eq_getElem h]
  rfl
/-- the last byte -/
theorem last_byte (s : ByteArray) (_ : 0 < s.size) (h' : s.size - 1 < s.size) : s.data.toList.getLast? = some (s[s.size - 1]) := by
  rw [List.getLast?_eq_getElem?, List.getElem?_eq_getElem (by simp; omega)]
  simp
  rfl
theorem feed_none {s : ByteArray} (h : s.size = 0) : feedEnd s.data.toList = s.data.toList := by rw [data_yes h]; rfl
theorem feed_stays {s : ByteArray} (h : 0 < s.size) (h' : s.size - 1 < s.size) (hc : s[s.size - 1] = 10) : feedEnd s.data.toList = s.data.toList := by
  unfold feedEnd
  rw [if_pos (.inr (by rw [last_byte s h h', hc]))]
theorem feed_more {s : ByteArray} (h : 0 < s.size) (h' : s.size - 1 < s.size) (hc : s[s.size - 1] ≠ 10) : feedEnd s.data.toList = s.data.toList ++ [10] := by
  unfold feedEnd
  rw [if_neg]
  rintro (e | e)
  · rw [last_byte s h h'] at e
    cases e
  · rw [last_byte s h h', Option.some.injEq] at e
    exact hc e
/-- a slice without its first text -/
theorem reads_tail {w : World} {B b off m cap : Nat} {x : ByteArray} {r : List ByteArray} (h : Reads w B (.slice (some ⟨b, off, none⟩) m cap) (x :: r)) :
    m = r.length + 1 ∧ m ≤ cap ∧ cap ≤ maxLen ∧ b < w.heap.size ∧ w.cell? ⟨b, off, none⟩ = some (.string x) ∧ (cap = 1 → Reads w B (.slice (some ⟨b, off, none⟩) 0 0) r) ∧ (cap ≠ 1 → Reads w B (.slice (some ⟨b, off + 1, none⟩) (m - 1) (cap - 1)) r) := by
  obtain ⟨a, cap', e, h1, h2, hS⟩ := h
  simp only [Value.slice.injEq] at e
  obtain ⟨rfl, rfl, rfl⟩ := e
  obtain ⟨b', off', e, hC, hc⟩ := hS.2 (by simp)
  simp only [Option.some.injEq, Addr.mk.injEq] at e
  obtain ⟨rfl, rfl, _⟩ := e
  refine ⟨rfl, h1, h2, hC.2, hc 0 (by simp), fun hcap => ?_, fun hcap => ?_⟩
  · have : r = [] := by
      cases r with
      | nil => rfl
      | cons y r => simp at h1; omega
    subst this
    exact ⟨_, 0, rfl, Nat.le_refl _, by decide, rfl, fun h => by cases h⟩
  · refine ⟨_, cap - 1, rfl, by simp at h1; omega, by omega, rfl, fun _ => ⟨b, off + 1, rfl, hC, fun i hi => ?_⟩⟩
    have := hc (i + 1) (by simp; omega)
    rw [show off + 1 + i = off + (i + 1) by omega, this]
    rfl
end Go.Proofs.Ytjkjbibfaekklaa
