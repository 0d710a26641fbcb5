/- Contracts of strings.Cut at a separator of one byte. -/
import Derived.Test.YtjkjbibfaekklaaTexts
import Derived.Test.YtjkjbibfaekklaaWordMath
namespace Go.Proofs.Ytjkjbibfaekklaa
open Go.RowKit

theorem byte_calls (s : ByteArray) (c : Int) (w : World) :
    Calls Try.prog 29 #[.string s, .int .u8 c] w fun e w' => e = .returned (.int .i64 (Lib.indexByte s.data.toList c.toNat.toUInt8)) ∧ w = w' := by
  go_enter Try.func29, Try.ntmps29
  go_wp2
  rw [run_callFunc_extern Try.func33 (by kernel_rfl) (by kernel_rfl) (by kernel_rfl) (e := Extern.BytealgIndexByte.indexByte) (by kernel_rfl), Lib.run_indexByteString]
  simp only [Result.andThen]
  rw [Oper.upon_value]
  go_wp2
  go_ret
  exact ⟨rfl, rfl⟩
theorem index_calls (s : ByteArray) (c : UInt8) (w : World) :
    Calls Try.prog 28 #[.string s, .string ⟨#[c]⟩] w fun e w' => e = .returned (.int .i64 (Lib.indexByte s.data.toList c)) ∧ w = w' := by
  have HB := hidden (byte_calls s c.toNat)
  have hsz : (⟨#[c]⟩ : ByteArray).size = 1 := rfl
  have hget : ∀ h : 0 < (⟨#[c]⟩ : ByteArray).size, (⟨#[c]⟩ : ByteArray)[0] = c := fun _ => rfl
  by_cases he : s = ⟨#[c]⟩
  · subst he
    go_enter Try.func28, Try.ntmps28
    go_wp2
    go_ret
    exact ⟨ret_i (by simp [Lib.indexByte]), rfl⟩
  · have ht : ([c] == s.toList) = false := by
      have h := text_other (fun e : (⟨#[c]⟩ : ByteArray) = s => he e.symm)
      rw [ByteArray.toList_eq] at h
      exact h
    go_enter Try.func28, Try.ntmps28
    go_wp2_with fail
    refine (HB.out _).mono ?_
    rintro e w' ⟨rfl, rfl⟩
    go_wp2
    go_ret
    exact ⟨ret_i (by simp), rfl⟩
/-- what Cut hands back -/
def foundB (s : ByteArray) (c : UInt8) : Bool := decide (0 ≤ Lib.indexByte s.data.toList c)
theorem lite_calls (s : ByteArray) (c : UInt8) (w : World) (hs : s.size ≤ maxLen) :
    Calls Try.prog 27 #[.string s, .string ⟨#[c]⟩] w fun e w' => e = .returned (.tuple #[.string (txt (cutL c s.data.toList).1), .string (txt (cutL c s.data.toList).2), .bool (foundB s c)]) ∧ Below w.heap.size w w' := by
  unfold maxLen at hs
  have HI := hidden (index_calls s c)
  have hsz : (⟨#[c]⟩ : ByteArray).size = 1 := rfl
  have hge := Lib.indexByte_ge s.data.toList c
  by_cases hi : Lib.indexByte s.data.toList c = -1
  · have HF : Hid (foundB s c = false) := hidden (decide_eq_false (by omega))
    have HC := hidden (cutL_none c _ hi)
    rw [hi] at HI
    clear hi hge
    go_enter Try.func27, Try.ntmps27
    go_wp2_with fail
    refine (HI.out _).mono ?_
    rintro e w' ⟨rfl, rfl⟩
    go_wp2
    rw [HC.out, HF.out]
    go_ret3
    exact ⟨rfl, Below.refl _ _⟩
  · obtain ⟨k, hk⟩ : ∃ k : Nat, Lib.indexByte s.data.toList c = k := ⟨(Lib.indexByte s.data.toList c).toNat, by omega⟩
    have HF : Hid (foundB s c = true) := hidden (decide_eq_true (by omega))
    obtain ⟨h1, h2⟩ := cutL_some c _ _ hk
    have HC := hidden h2
    have h1' : k < s.size := by simpa using h1
    rw [hk] at HI
    have e1 := hidden (txt_extract s 0 k)
    have e2 := hidden (txt_extract s (k + 1) s.size)
    clear hi hge hk h1 h2
    go_enter Try.func27, Try.ntmps27
    go_wp2_with fail
    refine (HI.out _).mono ?_
    rintro e w' ⟨rfl, rfl⟩
    have w1 : IntKind.i64.wrap ((k : Int) + 1) = (k : Int) + 1 := IntWalk.i64_in _ (by omega)
    have w2 : (0 : Int) ≤ (k : Int) + 1 := by omega
    have w3 : ((k : Int) + 1).toNat = k + 1 := by omega
    have w4 : (k : Int) + 1 ≤ (s.size : Int) := by omega
    go_wp2
    go_quiet (fail)
    go_wp2
    rw [HC.out, HF.out]
    go_ret3
    refine ⟨?_, below_drawn (Below.refl _ _) _⟩
    rw [e1.out, e2.out, List.take_of_length_le (l := s.data.toList) (i := s.size) (by simp)]
    simp
theorem cut_calls (s : ByteArray) (c : UInt8) (w : World) (hs : s.size ≤ maxLen) :
    Calls Try.prog 26 #[.string s, .string ⟨#[c]⟩] w fun e w' => e = .returned (.tuple #[.string (txt (cutL c s.data.toList).1), .string (txt (cutL c s.data.toList).2), .bool (foundB s c)]) ∧ Below w.heap.size w w' := by
  have HL := hidden (fun W => lite_calls s c W hs)
  generalize txt (cutL c s.data.toList).1 = a at HL
  generalize txt (cutL c s.data.toList).2 = b at HL
  go_enter Try.func26, Try.ntmps26
  go_wp2_with fail
  refine (HL.out _).mono ?_
  rintro e w' ⟨rfl, hb⟩
  go_wp2
  go_ret3
  exact ⟨rfl, hb⟩
end Go.Proofs.Ytjkjbibfaekklaa
