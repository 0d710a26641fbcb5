/- Contracts of word.letter, word.digit, word.Name and the reference's Name. -/
import Derived.Test.YtjkjbibfaekklaaTexts
import Derived.Test.YtjkjbibfaekklaaWordMath
import Derived.Laws.RangeAny
namespace Go.Proofs.Ytjkjbibfaekklaa
open Go.RowKit

def letB (c : Int) : Bool := decide (97 ≤ c ∧ c ≤ 122 ∨ 65 ≤ c ∧ c ≤ 90 ∨ c = 95)
def digB (c : Int) : Bool := decide (48 ≤ c ∧ c ≤ 57)
theorem letB_yes {c : Int} (h : 97 ≤ c ∧ c ≤ 122 ∨ 65 ≤ c ∧ c ≤ 90 ∨ c = 95) : letB c = true := decide_eq_true h
theorem letB_no {c : Int} (h : ¬ (97 ≤ c ∧ c ≤ 122 ∨ 65 ≤ c ∧ c ≤ 90 ∨ c = 95)) : letB c = false := decide_eq_false h
theorem digB_yes {c : Int} (h : 48 ≤ c ∧ c ≤ 57) : digB c = true := decide_eq_true h
theorem digB_no {c : Int} (h : ¬ (48 ≤ c ∧ c ≤ 57)) : digB c = false := decide_eq_false h
/-- may a name have c at i? -/
def okC (i : Nat) (c : Int) : Bool := letB c || (decide (0 < i) && digB c)
def byteAt (s : ByteArray) (i : Nat) : Int := ((s.data.toList.getD i 0).toNat : Int)
theorem byteAt_eq (s : ByteArray) (i : Nat) (h : i < s.size) : ((s[i]'h).toNat : Int) = byteAt s i := by
  have h' : i < s.data.size := h
  have e : s.data.toList.getD i 0 = s[i] := by
    rw [List.getD_eq_getElem?_getD, List.getElem?_eq_getElem (by simpa using h)]
    rfl
  rw [byteAt, e]
def nameV (s : ByteArray) : Bool := decide (1 ≤ s.size ∧ s.size ≤ 32) && (List.range s.size).all fun i => okC i (byteAt s i)
theorem name_short {s : ByteArray} (h : ¬ 1 ≤ s.size) : nameV s = false := by
  unfold nameV
  rw [decide_eq_false (fun e => h e.1), Bool.false_and]
theorem name_long {s : ByteArray} (h : ¬ s.size ≤ 32) : nameV s = false := by
  unfold nameV
  rw [decide_eq_false (fun e => h e.2), Bool.false_and]
theorem name_bad {s : ByteArray} (i : Nat) (h : i < s.size) (hb : okC i (byteAt s i) = false) : nameV s = false := by
  unfold nameV
  rw [Bool.and_eq_false_iff]
  right
  rw [List.all_eq_false]
  exact ⟨i, by simpa using h, by simpa using hb⟩
theorem name_good {s : ByteArray} (h1 : 1 ≤ s.size) (h2 : s.size ≤ 32) (h : ∀ i, i < s.size → okC i (byteAt s i) = true) : nameV s = true := by
  unfold nameV
  rw [decide_eq_true ⟨h1, h2⟩, Bool.true_and, List.all_eq_true]
  exact fun i hi => h i (by simpa using hi)
theorem name_all {s : ByteArray} (h1 : 1 ≤ s.size) (h : ∀ i, i < s.size → okC i (byteAt s i) = true) : nameV s = decide (s.size ≤ 32) := by
  by_cases h2 : s.size ≤ 32
  · rw [name_good h1 h2 h, decide_eq_true h2]
  · rw [name_long h2, decide_eq_false h2]

theorem iter_below (w : World) (s : ByteArray) (pos : Nat) : Below w.heap.size w (w.iter s pos) := (Below.refl _ _).alloc (Nat.le_refl _) _
theorem all_more {s : ByteArray} {pos : Nat} (h : ∀ i, i < pos → okC i (byteAt s i) = true) (h2 : okC pos (byteAt s pos) = true) : ∀ i, i < pos + 1 → okC i (byteAt s i) = true := fun i hi => by
  rcases Nat.lt_or_ge i pos with h3 | h3
  · exact h i h3
  · obtain rfl : i = pos := by omega
    exact h2
theorem letter_calls (r : Int) (w : World) (h0 : 0 ≤ r) (h1 : r ≤ 2147483647) :
    Calls Try.prog 21 #[.int .i32 r] w fun e w' => e = .returned (.bool (letB r)) ∧ w = w' := by
  go_enter Try.func21, Try.ntmps21
  go_wp2
  all_goals
    go_ret
    refine ⟨ret_b ?_, rfl⟩
    rw [Bool.eq_iff_iff]
    simp [letB]
    try omega
theorem digit_calls (r : Int) (w : World) (h0 : 0 ≤ r) (h1 : r ≤ 2147483647) :
    Calls Try.prog 22 #[.int .i32 r] w fun e w' => e = .returned (.bool (digB r)) ∧ w = w' := by
  go_enter Try.func22, Try.ntmps22
  go_wp2
  all_goals
    go_ret
    refine ⟨ret_b ?_, rfl⟩
    rw [Bool.eq_iff_iff]
    simp [digB]
    try omega

theorem high_none {c : Int} (h : 128 ≤ c) : letB c = false ∧ digB c = false := ⟨letB_no (by omega), digB_no (by omega)⟩
theorem ok_high (i : Nat) {c : Int} (h : 128 ≤ c) : okC i c = false := by
  unfold okC
  rw [(high_none h).1, (high_none h).2, Bool.and_false, Bool.or_false]
theorem ok_let (i : Nat) {c : Int} (h : letB c = true) : okC i c = true := by
  unfold okC
  rw [h, Bool.true_or]
theorem ok_dig {i : Nat} {c : Int} (hi : 0 < i) (h : digB c = true) : okC i c = true := by
  unfold okC
  rw [h, decide_eq_true hi, Bool.true_and, Bool.or_true]
theorem ok_not {i : Nat} {c : Int} (h : letB c = false) (h2 : i = 0 ∨ digB c = false) : okC i c = false := by
  unfold okC
  rcases h2 with h2 | h2
  · subst h2
    rw [h]
    rfl
  · rw [h, h2, Bool.and_false, Bool.or_false]

set_option maxHeartbeats 1000000 in
set_option maxRecDepth 100000 in
theorem name_calls (s : ByteArray) (w : World) (hs : s.size ≤ maxLen) :
    Calls Try.prog 8 #[.string s] w fun e w' => e = .returned (.bool (nameV s)) ∧ Below w.heap.size w w' := by
  unfold maxLen at hs
  by_cases h1 : s.size = 0
  · have hn := hidden (name_short (s := s) (by omega))
    have he := empty_yes h1
    go_enter Try.func8, Try.ntmps8
    go_wp2
    go_ret
    exact ⟨ret_b hn.out.symm, Below.refl _ _⟩
  · by_cases h2 : 32 < s.size
    · have hn := hidden (name_long (s := s) (by omega))
      have he := empty_no h1
      go_enter Try.func8, Try.ntmps8
      go_wp2
      go_ret
      exact ⟨ret_b hn.out.symm, Below.refl _ _⟩
    · have he := empty_no h1
      have h3 : s.size ≤ 32 := by omega
      have H1 : 1 ≤ s.size := by omega
      clear h1 h2
      go_enter Try.func8, Try.ntmps8
      go_wp2
      go_loopw [] (fun wr => ∃ pos : Nat, pos ≤ s.size ∧ wr = w.iter s pos ∧ ∀ i, i < pos → okC i (byteAt s i) = true) (fun wr => s.size - wr.iterPos w.heap.size)
      case atStart => exact ⟨0, by omega, rfl, fun i h => by omega⟩
      case round =>
        obtain ⟨pos, hp, rfl, hall⟩ := hrel
        have HA := hidden hall
        clear hall
        by_cases hlt : pos < s.size
        · by_cases ha : (s[pos]'hlt).toNat < 128
          · have hnx : ∀ ty, (Instr.next (.pointer (some ⟨w.heap.size, 0, none⟩)) true ty).run Try.prog (w.iter s pos) = _ := fun ty => run_next_ascii w s pos ty hlt ha
            have hB := hidden (byteAt_eq s pos hlt)
            have hc0 : (0 : Int) ≤ ((s[pos]'hlt).toNat : Int) := by omega
            have hc1 : ((s[pos]'hlt).toNat : Int) ≤ 2147483647 := by omega
            cases hl : letB ((s[pos]'hlt).toNat : Int)
            · cases hd : digB ((s[pos]'hlt).toNat : Int)
              · have hn := hidden (name_bad (s := s) pos hlt (by rw [← hB.out]; exact ok_not hl (.inr hd)))
                go_wp2_with (first | (go_at_call 21; refine (letter_calls _ _ hc0 hc1).mono ?_; rintro e w' ⟨rfl, rfl⟩) | (go_at_call 22; refine (digit_calls _ _ hc0 hc1).mono ?_; rintro e w' ⟨rfl, rfl⟩))
                all_goals
                  go_ret
                  exact ⟨ret_b hn.out.symm, iter_below _ _ _⟩
              · by_cases h0 : 0 < pos
                · have hA := hidden (all_more HA.out (by rw [← hB.out]; exact ok_dig h0 hd))
                  have h0' : ((pos : Int) == 0) = false := by simp; omega
                  go_wp2_with (first | (go_at_call 21; refine (letter_calls _ _ hc0 hc1).mono ?_; rintro e w' ⟨rfl, rfl⟩) | (go_at_call 22; refine (digit_calls _ _ hc0 hc1).mono ?_; rintro e w' ⟨rfl, rfl⟩))
                  go_roundw
                  case rel => exact ⟨pos + 1, by omega, rfl, hA.out⟩
                  case measure =>
                    rw [World.iterPos_iter, World.iterPos_iter]
                    omega
                · obtain rfl : pos = 0 := by omega
                  have hn := hidden (name_bad (s := s) 0 hlt (by rw [← hB.out]; exact ok_not hl (.inl rfl)))
                  go_wp2_with (first | (go_at_call 21; refine (letter_calls _ _ hc0 hc1).mono ?_; rintro e w' ⟨rfl, rfl⟩) | (go_at_call 22; refine (digit_calls _ _ hc0 hc1).mono ?_; rintro e w' ⟨rfl, rfl⟩))
                  go_ret
                  exact ⟨ret_b hn.out.symm, iter_below _ _ _⟩
            · have hA := hidden (all_more HA.out (by rw [← hB.out]; exact ok_let _ hl))
              go_wp2_with (go_at_call 21; refine (letter_calls _ _ hc0 hc1).mono ?_; rintro e w' ⟨rfl, rfl⟩)
              go_roundw
              case rel => exact ⟨pos + 1, by omega, rfl, hA.out⟩
              case measure =>
                rw [World.iterPos_iter, World.iterPos_iter]
                omega
          · have hnx : ∀ ty, (Instr.next (.pointer (some ⟨w.heap.size, 0, none⟩)) true ty).run Try.prog (w.iter s pos) = _ := fun ty => run_next_any w s pos ty hlt
            have hB := byteAt_eq s pos hlt
            have hn := hidden (name_bad (s := s) pos hlt (ok_high pos (by omega)))
            obtain ⟨g1, _⟩ := decode_high s pos hlt (by omega)
            have g2 := decode_le s pos
            generalize (Utf8.decode s pos).1 = r at hnx g1 g2
            generalize (Utf8.decode s pos).2 = sz at hnx
            obtain ⟨hl, hd⟩ := high_none (c := (r : Int)) (by omega)
            have hc0 : (0 : Int) ≤ (r : Int) := by omega
            have hc1 : (r : Int) ≤ 2147483647 := by omega
            clear hB ha g1 g2
            go_wp2_with (first | (go_at_call 21; refine (letter_calls _ _ hc0 hc1).mono ?_; rintro e w' ⟨rfl, rfl⟩) | (go_at_call 22; refine (digit_calls _ _ hc0 hc1).mono ?_; rintro e w' ⟨rfl, rfl⟩))
            all_goals
              go_ret
              exact ⟨ret_b hn.out.symm, iter_below _ _ _⟩
        · have hnx : ∀ ty, (Instr.next (.pointer (some ⟨w.heap.size, 0, none⟩)) true ty).run Try.prog (w.iter s pos) = _ := fun ty => run_next_end w s pos ty hlt
          have hn := hidden (name_good H1 h3 (fun i hi => HA.out i (by omega)))
          go_wp2
          go_ret
          exact ⟨ret_b hn.out.symm, iter_below _ _ _⟩

set_option maxHeartbeats 2000000 in
set_option maxRecDepth 100000 in
theorem rname_calls (s : ByteArray) (w : World) (hs : s.size ≤ maxLen) :
    Calls Try.prog 9 #[.string s] w fun e w' => e = .returned (.bool (nameV s)) ∧ w = w' := by
  unfold maxLen at hs
  go_enter Try.func9, Try.ntmps9
  go_wp2
  go_loop [3] (fun i => ∃ k : Nat, k ≤ s.size ∧ i = .int .i64 k ∧ ∀ i, i < k → okC i (byteAt s i) = true) (fun i => s.size - (intOf i).toNat)
  case atStart => exact ⟨0, by omega, rfl, fun i h => by omega⟩
  case round =>
    obtain ⟨k, hk, rfl, hall⟩ := hrel
    have HA := hidden hall
    clear hall
    by_cases hlt : k < s.size
    · have hB := byteAt_eq s k hlt
      have hc := (s[k]'hlt).toNat_lt
      have hD := hidden (fun h => name_bad (s := s) k hlt h)
      have hE := hidden (fun h => all_more (s := s) (pos := k) HA.out h)
      have hc1 : byteAt s k ≤ 255 := by omega
      by_cases h0 : k = 0
      · subst h0
        clear hc
        go_wp2
        all_goals
          first
          | (go_ret
             exact ⟨ret_b (hD.out (ok_not (letB_no (by omega)) (.inl rfl))).symm, rfl⟩)
          | (go_round
             case rel => exact ⟨1, by omega, rfl, hE.out (ok_let _ (letB_yes (by omega)))⟩
             case measure => simp [intOf]; omega)
      · have h0' : ((k : Int) == 0) = false := by simp; omega
        clear hc
        go_wp2
        all_goals
          first
          | (go_ret
             exact ⟨ret_b (hD.out (ok_not (letB_no (by omega)) (.inr (digB_no (by omega))))).symm, rfl⟩)
          | (go_round
             case rel => exact ⟨k + 1, by omega, by go_num, hE.out (by first | exact ok_let _ (letB_yes (by omega)) | exact ok_dig (by omega) (digB_yes (by omega)))⟩
             case measure => simp [intOf]; omega)
    · obtain rfl : k = s.size := by omega
      by_cases h1 : 1 ≤ s.size
      · have hn := hidden (name_all h1 HA.out)
        go_wp2
        go_ret
        exact ⟨ret_b (by rw [hn.out]; exact decide_eq_decide.2 (by omega)), rfl⟩
      · have hn := hidden (name_short h1)
        go_wp2
        go_ret
        exact ⟨ret_b hn.out.symm, rfl⟩
end Go.Proofs.Ytjkjbibfaekklaa
