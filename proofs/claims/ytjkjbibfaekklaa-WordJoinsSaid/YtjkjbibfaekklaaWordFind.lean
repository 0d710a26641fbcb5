/- Contracts of slices.Index at texts, word.Find, the reference's Find and Twice, facsimilelaw06.few. -/
import Derived.Test.YtjkjbibfaekklaaWordName
namespace Go.Proofs.Ytjkjbibfaekklaa
open Go.RowKit

/-- the first place from k on, else -1 -/
def findFrom (s : ByteArray) : List ByteArray → Nat → Int
  | [], _ => -1
  | x :: r, k => if x = s then (k : Int) else findFrom s r (k + 1)
def findV (l : List ByteArray) (s : ByteArray) : Int := findFrom s l 0
theorem find_step {l : List ByteArray} {s : ByteArray} {k : Nat} (h : findV l s = findFrom s (l.drop k) k) (hk : k < l.length) :
    (l.getD k ByteArray.empty = s → findV l s = k) ∧ (l.getD k ByteArray.empty ≠ s → findV l s = findFrom s (l.drop (k + 1)) (k + 1)) := by
  rw [List.drop_eq_getElem_cons hk, findFrom] at h
  have e : l.getD k ByteArray.empty = l[k] := by rw [List.getD_eq_getElem?_getD, List.getElem?_eq_getElem hk]; rfl
  rw [e]
  exact ⟨fun h2 => by rw [if_pos h2] at h; exact h, fun h2 => by rw [if_neg h2] at h; exact h⟩
theorem find_end {l : List ByteArray} {s : ByteArray} {k : Nat} (h : findV l s = findFrom s (l.drop k) k) (hk : l.length ≤ k) : findV l s = -1 := by
  rw [List.drop_eq_nil_of_le hk] at h
  exact h
theorem findFrom_ge (s : ByteArray) : ∀ l k, findFrom s l k = -1 ∨ (k ≤ findFrom s l k ∧ findFrom s l k < k + l.length)
  | [], k => .inl rfl
  | x :: r, k => by
    rw [findFrom]
    split
    · right
      simp
      omega
    · rcases findFrom_ge s r (k + 1) with h | h
      · exact .inl h
      · right
        simp at h ⊢
        omega
theorem findV_range (l : List ByteArray) (s : ByteArray) : -1 ≤ findV l s ∧ findV l s < l.length := by
  rcases findFrom_ge s l 0 with h | h
  · unfold findV
    omega
  · unfold findV
    omega

set_option maxHeartbeats 1000000 in
theorem index_texts {C : Nat → Prop} (a : Option Addr) (len cap : Nat) (ss : List ByteArray) (s : ByteArray) (w : World) (hl : len ≤ cap) (hcap : cap ≤ maxLen) (hS : Strs C w a len ss) :
    Calls Try.prog 23 #[.slice a len cap, .string s] w fun e w' => e = .returned (.int .i64 (findV ss s)) ∧ w = w' := by
  unfold maxLen at hcap
  go_enter Try.func23, Try.ntmps23
  go_wp2
  go_loop [8] (fun i => ∃ k : Nat, k ≤ len ∧ i = .int .i64 k ∧ findV ss s = findFrom s (ss.drop k) k) (fun i => len - (intOf i).toNat)
  case atStart => exact ⟨0, by omega, rfl, rfl⟩
  case round =>
    obtain ⟨k, hk, rfl, hf⟩ := hrel
    have HF := hidden hf
    have HS := hidden hS
    clear hf hS
    by_cases hlt : k < len
    · obtain ⟨b, off, rfl, _, hc⟩ := HS.out.2 (by omega)
      have hck := hc k hlt
      have H1 := hidden (find_step HF.out (by rw [HS.out.1]; exact hlt))
      clear hc
      by_cases he : ss.getD k ByteArray.empty = s
      · have hf := hidden (H1.out.1 he)
        have ht : (s.toList == (ss.getD k ByteArray.empty).toList) = true := by rw [he]; exact text_same _
        generalize ss.getD k ByteArray.empty = x at hck ht
        clear he H1
        go_wp2
        go_ret
        exact ⟨ret_i hf.out.symm, rfl⟩
      · have hf := hidden (H1.out.2 he)
        have ht : (s.toList == (ss.getD k ByteArray.empty).toList) = false := text_other (fun e => he e.symm)
        generalize ss.getD k ByteArray.empty = x at hck ht
        clear he H1
        go_wp2
        go_round
        case rel => exact ⟨k + 1, by omega, by go_num, hf.out⟩
        case measure => simp [intOf]; omega
    · have hf := hidden (find_end HF.out (by rw [HS.out.1]; omega))
      obtain rfl : k = len := by omega
      go_wp2
      go_ret
      exact ⟨ret_i hf.out.symm, rfl⟩
theorem find_texts {C : Nat → Prop} (a : Option Addr) (len cap : Nat) (ss : List ByteArray) (s : ByteArray) (w : World) (hl : len ≤ cap) (hcap : cap ≤ maxLen) (hS : Strs C w a len ss) :
    Calls Try.prog 12 #[.slice a len cap, .string s] w fun e w' => e = .returned (.int .i64 (findV ss s)) ∧ w = w' := by
  have H := hidden (index_texts a len cap ss s w hl hcap hS)
  clear hS
  go_enter Try.func12, Try.ntmps12
  go_wp2_with fail
  refine H.out.mono ?_
  rintro e w' ⟨rfl, rfl⟩
  go_wp2
  go_ret
  exact ⟨rfl, rfl⟩
set_option maxHeartbeats 1000000 in
theorem rfind_texts {C : Nat → Prop} (a : Option Addr) (len cap : Nat) (ss : List ByteArray) (s : ByteArray) (w : World) (hl : len ≤ cap) (hcap : cap ≤ maxLen) (hS : Strs C w a len ss) :
    Calls Try.prog 13 #[.slice a len cap, .string s] w fun e w' => e = .returned (.int .i64 (findV ss s)) ∧ w = w' := by
  unfold maxLen at hcap
  go_enter Try.func13, Try.ntmps13
  go_wp2
  go_loop [5] (fun i => ∃ k : Nat, k ≤ len ∧ i = .int .i64 k ∧ findV ss s = findFrom s (ss.drop k) k) (fun i => len - (intOf i).toNat)
  case atStart => exact ⟨0, by omega, rfl, rfl⟩
  case round =>
    obtain ⟨k, hk, rfl, hf⟩ := hrel
    have HF := hidden hf
    have HS := hidden hS
    clear hf hS
    by_cases hlt : k < len
    · obtain ⟨b, off, rfl, _, hc⟩ := HS.out.2 (by omega)
      have hck := hc k hlt
      have H1 := hidden (find_step HF.out (by rw [HS.out.1]; exact hlt))
      clear hc
      by_cases he : ss.getD k ByteArray.empty = s
      · have hf := hidden (H1.out.1 he)
        have ht : ((ss.getD k ByteArray.empty).toList == s.toList) = true := by rw [he]; exact text_same _
        generalize ss.getD k ByteArray.empty = x at hck ht
        clear he H1
        go_wp2
        go_ret
        exact ⟨ret_i hf.out.symm, rfl⟩
      · have hf := hidden (H1.out.2 he)
        have ht : ((ss.getD k ByteArray.empty).toList == s.toList) = false := text_other he
        generalize ss.getD k ByteArray.empty = x at hck ht
        clear he H1
        go_wp2
        go_round
        case rel => exact ⟨k + 1, by omega, by go_num, hf.out⟩
        case measure => simp [intOf]; omega
    · have hf := hidden (find_end HF.out (by rw [HS.out.1]; omega))
      obtain rfl : k = len := by omega
      go_wp2
      go_ret
      exact ⟨ret_i hf.out.symm, rfl⟩

/-- the first text that an earlier one equals, from k on -/
def twiceFrom (l : List ByteArray) : Nat → Nat → Int
  | 0, _ => -1
  | n + 1, k => if findV l (l.getD k ByteArray.empty) < k then (k : Int) else twiceFrom l n (k + 1)
def twiceV (l : List ByteArray) : Int := twiceFrom l l.length 0
set_option maxHeartbeats 1000000 in
theorem rtwice_texts {C : Nat → Prop} (a : Option Addr) (len cap : Nat) (ss : List ByteArray) (w : World) (hl : len ≤ cap) (hcap : cap ≤ maxLen) (hS : Strs C w a len ss) :
    Calls Try.prog 11 #[.slice a len cap] w fun e w' => e = .returned (.int .i64 (twiceV ss)) ∧ w = w' := by
  have HF := hidden (fun s => rfind_texts a len cap ss s w hl hcap hS)
  unfold maxLen at hcap
  have HS := hidden hS
  clear hS
  go_enter Try.func11, Try.ntmps11
  go_wp2
  go_loop [3] (fun i => ∃ k : Nat, k ≤ len ∧ i = .int .i64 k ∧ twiceV ss = twiceFrom ss (len - k) k) (fun i => len - (intOf i).toNat)
  case atStart => exact ⟨0, by omega, rfl, by rw [twiceV, HS.out.1]; rfl⟩
  case round =>
    obtain ⟨k, hk, rfl, hf⟩ := hrel
    by_cases hlt : k < len
    · rw [show len - k = (len - (k + 1)) + 1 by omega, twiceFrom] at hf
      obtain ⟨b, off, rfl, _, hc⟩ := HS.out.2 (by omega)
      have hck := hc k hlt
      have hr := findV_range ss (ss.getD k ByteArray.empty)
      rw [HS.out.1] at hr
      have H1 := hidden hf
      have HK := hidden (HF.out (ss.getD k ByteArray.empty))
      clear hc hf
      generalize findV ss (ss.getD k ByteArray.empty) = n at hr H1 HK
      generalize ss.getD k ByteArray.empty = x at hck HK
      by_cases he : n < k
      · have hf := H1.out
        rw [if_pos he] at hf
        have H2 := hidden hf
        clear H1 hf
        go_wp2_with fail
        refine HK.out.mono ?_
        rintro e w' ⟨rfl, rfl⟩
        go_wp2
        go_ret
        exact ⟨ret_i H2.out.symm, rfl⟩
      · have hf := H1.out
        rw [if_neg he] at hf
        have H2 := hidden hf
        have he' : decide (n < (k : Int)) = false := by simpa using he
        clear H1 hf
        go_wp2_with fail
        refine HK.out.mono ?_
        rintro e w' ⟨rfl, rfl⟩
        go_wp2
        go_round
        case rel => exact ⟨k + 1, by omega, by go_num, H2.out⟩
        case measure => simp [intOf]; omega
    · obtain rfl : k = len := by omega
      rw [Nat.sub_self, twiceFrom] at hf
      have H2 := hidden hf
      clear hf
      go_wp2
      go_ret
      exact ⟨ret_i H2.out.symm, rfl⟩

/-- are these few texts, and short ones? -/
def fewB (ss : List ByteArray) : Bool := ss.all (fun s => decide (s.size ≤ 100)) && decide (ss.length ≤ 60)
theorem few_no {ss : List ByteArray} {k : Nat} (h : k < ss.length) (h2 : 100 < (ss.getD k ByteArray.empty).size) : fewB ss = false := by
  rw [fewB, Bool.and_eq_false_iff]
  left
  rw [List.all_eq_false]
  have e : ss.getD k ByteArray.empty = ss[k] := by rw [List.getD_eq_getElem?_getD, List.getElem?_eq_getElem h]; rfl
  exact ⟨ss[k], List.getElem_mem h, by rw [← e]; simpa using h2⟩
theorem few_end {ss : List ByteArray} (h : ∀ i, i < ss.length → (ss.getD i ByteArray.empty).size ≤ 100) : fewB ss = decide (ss.length ≤ 60) := by
  have : ss.all (fun s => decide (s.size ≤ 100)) = true := by
    rw [List.all_eq_true]
    intro x hx
    obtain ⟨i, hi, rfl⟩ := List.getElem_of_mem hx
    have e : ss.getD i ByteArray.empty = ss[i] := by rw [List.getD_eq_getElem?_getD, List.getElem?_eq_getElem hi]; rfl
    have := h i hi
    rw [e] at this
    exact decide_eq_true this
  rw [fewB, this, Bool.true_and]
set_option maxHeartbeats 1000000 in
theorem few_calls {C : Nat → Prop} (a : Option Addr) (len cap : Nat) (ss : List ByteArray) (w : World) (hl : len ≤ cap) (hcap : cap ≤ maxLen) (hz : ∀ s ∈ ss, s.size ≤ maxLen) (hS : Strs C w a len ss) :
    Calls Try.prog 6 #[.slice a len cap] w fun e w' => e = .returned (.bool (fewB ss)) ∧ w = w' := by
  unfold maxLen at hcap
  have HS := hidden hS
  have HZ := hidden hz
  clear hS hz
  go_enter Try.func6, Try.ntmps6
  go_wp2
  go_loop [3] (fun i => ∃ k : Nat, k ≤ len ∧ i = .int .i64 k ∧ ∀ i, i < k → (ss.getD i ByteArray.empty).size ≤ 100) (fun i => len - (intOf i).toNat)
  case atStart => exact ⟨0, by omega, rfl, fun i h => by omega⟩
  case round =>
    obtain ⟨k, hk, rfl, hf⟩ := hrel
    have HF := hidden hf
    clear hf
    by_cases hlt : k < len
    · obtain ⟨b, off, rfl, _, hc⟩ := HS.out.2 (by omega)
      have hck := hc k hlt
      have hlt' : k < ss.length := by rw [HS.out.1]; exact hlt
      have hm : (ss.getD k ByteArray.empty).size ≤ 9223372036854775807 := by
        have e : ss.getD k ByteArray.empty = ss[k] := by rw [List.getD_eq_getElem?_getD, List.getElem?_eq_getElem hlt']; rfl
        rw [e]
        exact HZ.out _ (List.getElem_mem hlt')
      clear hc
      by_cases he : 100 < (ss.getD k ByteArray.empty).size
      · have hf := hidden (few_no hlt' he)
        generalize ss.getD k ByteArray.empty = x at hck he hm
        go_wp2
        go_ret
        exact ⟨ret_b hf.out.symm, rfl⟩
      · have H2 : Hid (∀ i, i < k + 1 → (ss.getD i ByteArray.empty).size ≤ 100) := hidden fun i hi => by
          rcases Nat.lt_or_ge i k with h3 | h3
          · exact HF.out i h3
          · obtain rfl : i = k := by omega
            omega
        generalize ss.getD k ByteArray.empty = x at hck he hm
        go_wp2
        go_round
        case rel => exact ⟨k + 1, by omega, by go_num, H2.out⟩
        case measure => simp [intOf]; omega
    · obtain rfl : k = len := by omega
      have hf := hidden (few_end (ss := ss) (fun i hi => HF.out i (by rw [← HS.out.1]; exact hi)))
      have hl' := hidden HS.out.1
      go_wp2
      go_ret
      exact ⟨ret_b (by rw [hf.out, hl'.out]; exact decide_eq_decide.2 (by omega)), rfl⟩
end Go.Proofs.Ytjkjbibfaekklaa
