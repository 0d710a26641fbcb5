/- Contracts of num.Read, num.isDecimal and the reference's Read. -/
import Derived.Test.YtlciajdkjchmcaaBase
namespace Go.Proofs.Ytlciajdkjchmcaa
open Go.RowKit

def isDig (c : UInt8) : Bool := decide (48 ≤ c.toNat ∧ c.toNat ≤ 57)
/-- digits, at least one, without a zero ahead of others -/
def decOk (l : List UInt8) : Bool := l.all isDig && (match l with | [] => false | [_] => true | c :: _ => decide (c.toNat ≠ 48))
def readF (most : Int) : Int → List UInt8 → Option Int
  | n, [] => some n
  | n, c :: r => if most < (c.toNat : Int) - 48 ∨ (most - ((c.toNat : Int) - 48)) / 10 < n then none else readF most (n * 10 + ((c.toNat : Int) - 48)) r
def readV (l : List UInt8) (most : Int) : Int × Int :=
  if decOk l then (match readF most 0 l with | none => (0, 2) | some n => (n, 0)) else (0, 3)

theorem drop_at (s : ByteArray) (k : Nat) (h : k < s.size) : s.data.toList.drop k = s[k] :: s.data.toList.drop (k + 1) := by
  rw [List.drop_eq_getElem_cons (by simpa using h)]; rfl
theorem drop_end (s : ByteArray) (k : Nat) (h : ¬ k < s.size) : s.data.toList.drop k = [] := by
  rw [List.drop_eq_nil_iff]
  have : s.data.toList.length = s.size := by simp
  omega
theorem all_of (s : ByteArray) (h : ∀ j, j < s.size → ∃ hj, isDig (s[j]'hj) = true) : s.data.toList.all isDig = true := by
  rw [List.all_eq_true]
  intro x hx
  obtain ⟨j, hj, rfl⟩ := List.mem_iff_getElem.1 hx
  obtain ⟨h1, h2⟩ := h j (by simpa using hj)
  exact h2
theorem all_not (s : ByteArray) (k : Nat) (hk : k < s.size) (h : isDig s[k] = false) : decOk s.data.toList = false := by
  have : s.data.toList.all isDig = false := by
    rw [Bool.eq_false_iff]
    intro e
    rw [List.all_eq_true] at e
    have := e s[k] (by
      have : s[k] = s.data.toList[k]'(by simpa using hk) := rfl
      rw [this]
      exact List.getElem_mem _)
    rw [h] at this
    cases this
  unfold decOk
  rw [this]
  rfl
theorem ok_one {s : ByteArray} (ha : s.data.toList.all isDig = true) (h : s.size = 1) : decOk s.data.toList = true := by
  obtain ⟨⟨l⟩⟩ := s
  match l, h with
  | [a], _ => unfold decOk; rw [ha]; rfl
theorem ok_none {s : ByteArray} (h : s.size = 0) : decOk s.data.toList = false := by
  obtain ⟨⟨l⟩⟩ := s
  match l, h with
  | [], _ => rfl
theorem ok_more {s : ByteArray} (ha : s.data.toList.all isDig = true) (h : 1 < s.size) : decOk s.data.toList = decide (s[0].toNat ≠ 48) := by
  obtain ⟨⟨l⟩⟩ := s
  match l, h with
  | a :: b :: r, _ => unfold decOk; rw [ha]; rfl

set_option maxRecDepth 100000 in
theorem isdec_calls (s : ByteArray) (w : World) (hs : s.size ≤ maxLen) :
    Calls Try.prog 20 #[.string s] w fun e w' => e = .returned (.bool (decOk s.data.toList)) ∧ w = w' := by
  unfold maxLen at hs
  go_enter Try.func20, Try.ntmps20
  go_wp2
  go_loop [6] (fun i => ∃ k : Nat, k ≤ s.size ∧ i = .int .i64 k ∧ ∀ j, j < k → ∃ hj, isDig (s[j]'hj) = true) (fun i => s.size - (intOf i).toNat)
  case atStart => exact ⟨0, Nat.zero_le _, rfl, fun _ h => absurd h (by omega)⟩
  case round =>
    obtain ⟨k, hk, rfl, hj⟩ := hrel
    have HJ := hidden hj
    clear hj
    by_cases hlt : k < s.size
    · by_cases hd : 48 ≤ s[k].toNat ∧ s[k].toNat ≤ 57
      · obtain ⟨hd1, hd2⟩ := hd
        go_wp2
        refine ⟨⟨k + 1, by omega, by go_num, fun j hj => ?_⟩, by simp [intOf]; omega⟩
        by_cases e : j = k
        · subst e; exact ⟨hlt, by simp [isDig, hd1, hd2]⟩
        · exact HJ.out j (by omega)
      · have HN := hidden (all_not s k hlt (by simp [isDig]; omega))
        by_cases h48 : s[k].toNat < 48
        · go_wp2
          go_ret
          exact ⟨ret_b HN.out.symm, rfl⟩
        · have h57 : 57 < s[k].toNat := by omega
          clear hd
          go_wp2
          go_ret
          exact ⟨ret_b HN.out.symm, rfl⟩
    · have ha := hidden (all_of s fun j hj => HJ.out j (by omega))
      by_cases h1 : s.size = 1
      · have h1' : ((s.size : Int) == 1) = true := by simp; omega
        have hr := hidden (ok_one ha.out h1)
        clear h1
        go_wp2
        go_ret
        exact ⟨ret_b hr.out.symm, rfl⟩
      · have h1' : ((s.size : Int) == 1) = false := by simp; omega
        by_cases h2 : 1 < s.size
        · have hr := hidden (ok_more ha.out h2)
          by_cases h0 : s[0].toNat = 48
          · have h0' : ((s[0].toNat : Int) != 48) = false := by simp; omega
            have hr' := hidden (show decOk s.data.toList = false by rw [hr.out]; simp [h0])
            clear h0
            go_wp2
            go_ret
            exact ⟨ret_b hr'.out.symm, rfl⟩
          · have h0' : ((s[0].toNat : Int) != 48) = true := by simp; omega
            have hr' := hidden (show decOk s.data.toList = true by rw [hr.out]; simp [h0])
            clear h0
            go_wp2
            go_ret
            exact ⟨ret_b hr'.out.symm, rfl⟩
        · have hr := hidden (ok_none (s := s) (by omega))
          go_wp2
          go_ret
          exact ⟨ret_b hr.out.symm, rfl⟩

theorem isDig_of (l : List UInt8) (h : decOk l = true) : l.all isDig = true := by
  unfold decOk at h
  rw [Bool.and_eq_true] at h
  exact h.1
theorem dig_at (s : ByteArray) (h : s.data.toList.all isDig = true) (k : Nat) (hk : k < s.size) : 48 ≤ s[k].toNat ∧ s[k].toNat ≤ 57 := by
  rw [List.all_eq_true] at h
  have := h s[k] (by
      have : s[k] = s.data.toList[k]'(by simpa using hk) := rfl
      rw [this]
      exact List.getElem_mem _)
  simpa [isDig] using this
theorem readF_end (most n : Int) : readF most n [] = some n := rfl
theorem readF_none {most n : Int} {c : UInt8} {r : List UInt8} (h : most < (c.toNat : Int) - 48 ∨ (most - ((c.toNat : Int) - 48)) / 10 < n) : readF most n (c :: r) = none := by
  rw [readF, if_pos h]
theorem readF_more {most n : Int} {c : UInt8} {r : List UInt8} (h : ¬ (most < (c.toNat : Int) - 48 ∨ (most - ((c.toNat : Int) - 48)) / 10 < n)) : readF most n (c :: r) = readF most (n * 10 + ((c.toNat : Int) - 48)) r := by
  rw [readF, if_neg h]
theorem readV_form {l : List UInt8} {most : Int} (h : decOk l = false) : readV l most = (0, 3) := by unfold readV; rw [h]; rfl
theorem readV_range {l : List UInt8} {most : Int} (h : decOk l = true) (h' : readF most 0 l = none) : readV l most = (0, 2) := by unfold readV; rw [h, h']; rfl
theorem readV_some {l : List UInt8} {most n : Int} (h : decOk l = true) (h' : readF most 0 l = some n) : readV l most = (n, 0) := by unfold readV; rw [h, h']; rfl

set_option maxRecDepth 100000 in
theorem read_calls (s : ByteArray) (most : Int) (w : World) (hs : s.size ≤ maxLen) (h0 : -9223372036854775808 ≤ most) (h1 : most ≤ 9223372036854775807) :
    Calls Try.prog 12 #[.string s, .int .i64 most] w fun e w' => e = .returned (.tuple #[.int .i64 (readV s.data.toList most).1, .int .i64 (readV s.data.toList most).2]) ∧ w = w' := by
  have hs' := hs
  unfold maxLen at hs'
  by_cases hok : decOk s.data.toList = true
  · have ha := hidden (isDig_of _ hok)
    have Hok := hidden hok
    clear hok
    go_enter Try.func12, Try.ntmps12
    go_wp2_with fail
    refine (isdec_calls s _ hs).mono ?_
    rintro e w' ⟨rfl, rfl⟩
    rw [Hok.out]
    go_wp2
    go_loop [6, 14] (fun v i => ∃ (k : Nat) (n : Int), k ≤ s.size ∧ i = .int .i64 k ∧ v = .int .i64 n ∧ 0 ≤ n ∧ (n = 0 ∨ n ≤ most) ∧ readF most 0 s.data.toList = readF most n (s.data.toList.drop k)) (fun _ i => s.size - (intOf i).toNat)
    case atStart => exact ⟨0, 0, Nat.zero_le _, rfl, rfl, by omega, .inl rfl, rfl⟩
    case round =>
      obtain ⟨k, n, hk, rfl, rfl, hn0, hn1, hr⟩ := hrel
      have HN := hidden hn1
      have hn2 : n ≤ 9223372036854775807 := by omega
      clear hn1
      by_cases hlt : k < s.size
      · have hd := dig_at s ha.out k hlt
        obtain ⟨hd1, hd2⟩ := hd
        rw [drop_at s k hlt] at hr
        have HR := hidden hr
        clear hr
        by_cases hA : most < (s[k].toNat : Int) - 48
        · have hv := hidden (readV_range Hok.out (by rw [HR.out, readF_none (.inl hA)]))
          go_wp2
          go_ret2
          exact ⟨ret_ii (by rw [hv.out]) (by rw [hv.out]), rfl⟩
        · by_cases hB : (most - ((s[k].toNat : Int) - 48)) / 10 < n
          · have hv := hidden (readV_range Hok.out (by rw [HR.out, readF_none (.inr hB)]))
            go_wp2
            go_ret2
            exact ⟨ret_ii (by rw [hv.out]) (by rw [hv.out]), rfl⟩
          · have HR' := hidden (show readF most 0 s.data.toList = readF most (n * 10 + ((s[k].toNat : Int) - 48)) (s.data.toList.drop (k + 1)) by rw [HR.out, readF_more (by omega)])
            go_wp2
            exact ⟨⟨k + 1, _, by omega, by go_num, rfl, by omega, .inr (by omega), HR'.out⟩, by simp [intOf]; omega⟩
      · go_wp2
        go_ret2
        have e := hr
        rw [drop_end s k hlt, readF_end] at e
        have hv := readV_some Hok.out e
        exact ⟨ret_ii (by rw [hv]) (by rw [hv]), rfl⟩
  · have Hok := hidden (show decOk s.data.toList = false by simpa using hok)
    clear hok
    have hv := hidden (readV_form (most := most) Hok.out)
    go_enter Try.func12, Try.ntmps12
    go_wp2_with fail
    refine (isdec_calls s _ hs).mono ?_
    rintro e w' ⟨rfl, rfl⟩
    rw [Hok.out]
    go_wp2
    go_ret2
    exact ⟨ret_ii (by rw [hv.out]) (by rw [hv.out]), rfl⟩

theorem zero_lead {s : ByteArray} (h : 1 < s.size) (h0 : s[0].toNat = 48) : decOk s.data.toList = false := by
  obtain ⟨⟨l⟩⟩ := s
  match l, h with
  | a :: b :: r, _ =>
    have : a.toNat = 48 := h0
    unfold decOk
    simp [this]
theorem ok_lead {s : ByteArray} (ha : s.data.toList.all isDig = true) (hs : 0 < s.size) (h : s.size = 1 ∨ s[0].toNat ≠ 48) : decOk s.data.toList = true := by
  obtain ⟨⟨l⟩⟩ := s
  match l, hs with
  | [a], _ => unfold decOk; rw [ha]; rfl
  | a :: b :: r, _ =>
    have : a.toNat ≠ 48 := by
      rcases h with h | h
      · simp [ByteArray.size] at h
      · exact h
    unfold decOk; rw [ha]; simp [this]

set_option maxRecDepth 100000 in
set_option maxHeartbeats 400000 in
theorem rread_calls (s : ByteArray) (most : Int) (w : World) (hs : s.size ≤ maxLen) (h0 : -9223372036854775808 ≤ most) (h1 : most ≤ 9223372036854775807) :
    Calls Try.prog 13 #[.string s, .int .i64 most] w fun e w' => e = .returned (.tuple #[.int .i64 (readV s.data.toList most).1, .int .i64 (readV s.data.toList most).2]) ∧ w = w' := by
  have hs' := hs
  unfold maxLen at hs'
  by_cases hz : s.size = 0
  · have hz' : ((s.size : Int) == 0) = true := by rw [beq_iff_eq]; omega
    have hv := hidden (readV_form (most := most) (ok_none hz))
    clear hz
    go_enter Try.func13, Try.ntmps13
    go_wp2
    go_ret2
    exact ⟨ret_ii (by rw [hv.out]) (by rw [hv.out]), rfl⟩
  · have hz' : ((s.size : Int) == 0) = false := by rw [beq_eq_false_iff_ne]; omega
    have hp : 0 < s.size := by omega
    clear hz
    by_cases hlead : 1 < s.size ∧ s[0].toNat = 48
    · obtain ⟨hl1, hl2⟩ := hlead
      have hv := hidden (readV_form (most := most) (zero_lead hl1 hl2))
      have hl2' : ((s[0].toNat : Int) == 48) = true := by simp; omega
      clear hl2
      go_enter Try.func13, Try.ntmps13
      go_wp2
      go_ret2
      exact ⟨ret_ii (by rw [hv.out]) (by rw [hv.out]), rfl⟩
    · have hlead' := hidden (show s.size = 1 ∨ s[0].toNat ≠ 48 by omega)
      clear hlead
      have hc : (∃ _ : 1 < s.size, ((s[0].toNat : Int) == 48) = false) ∨ ¬ 1 < s.size := by
        by_cases hl1 : 1 < s.size
        · have := hlead'.out
          exact .inl ⟨hl1, by rw [beq_eq_false_iff_ne]; omega⟩
        · exact .inr hl1
      rcases hc with ⟨hl1, hl2⟩ | hl1
      all_goals
        go_enter Try.func13, Try.ntmps13
        go_wp2
        go_loop [6] (fun i => ∃ k : Nat, k ≤ s.size ∧ i = .int .i64 k ∧ ∀ j, j < k → ∃ hj, isDig (s[j]'hj) = true) (fun i => s.size - (intOf i).toNat)
        case atStart => exact ⟨0, Nat.zero_le _, rfl, fun _ h => absurd h (by omega)⟩
        case round =>
          obtain ⟨k, hk, rfl, hj⟩ := hrel
          have HJ := hidden hj
          clear hj
          by_cases hlt : k < s.size
          · by_cases hd : 48 ≤ s[k].toNat ∧ s[k].toNat ≤ 57
            · obtain ⟨hd1, hd2⟩ := hd
              go_wp2
              refine ⟨⟨k + 1, by omega, by go_num, fun j hj => ?_⟩, by simp [intOf]; omega⟩
              by_cases e : j = k
              · subst e; exact ⟨hlt, by simp [isDig, hd1, hd2]⟩
              · exact HJ.out j (by omega)
            · have hv := hidden (readV_form (most := most) (all_not s k hlt (by simp [isDig]; omega)))
              by_cases h48 : s[k].toNat < 48
              · go_wp2
                go_ret2
                exact ⟨ret_ii (by rw [hv.out]) (by rw [hv.out]), rfl⟩
              · have h57 : 57 < s[k].toNat := by omega
                clear hd
                go_wp2
                go_ret2
                exact ⟨ret_ii (by rw [hv.out]) (by rw [hv.out]), rfl⟩
          · have ha := hidden (all_of s fun j hj => HJ.out j (by omega))
            have Hok := hidden (ok_lead ha.out hp hlead'.out)
            go_wp2
            go_loop [7, 8] (fun v i => ∃ (k : Nat) (n : Int), k ≤ s.size ∧ i = .int .i64 k ∧ v = .int .i64 n ∧ 0 ≤ n ∧ (n = 0 ∨ n ≤ most) ∧ readF most 0 s.data.toList = readF most n (s.data.toList.drop k)) (fun _ i => s.size - (intOf i).toNat)
            case atStart => exact ⟨0, 0, Nat.zero_le _, rfl, rfl, by omega, .inl rfl, rfl⟩
            case round =>
              obtain ⟨k, n, hk, rfl, rfl, hn0, hn1, hr⟩ := hrel
              have HN := hidden hn1
              have hn2 : n ≤ 9223372036854775807 := by omega
              clear hn1
              by_cases hlt : k < s.size
              · have hd := dig_at s ha.out k hlt
                obtain ⟨hd1, hd2⟩ := hd
                rw [drop_at s k hlt] at hr
                have HR := hidden hr
                clear hr
                by_cases hA : most < (s[k].toNat : Int) - 48
                · have hv := hidden (readV_range Hok.out (by rw [HR.out, readF_none (.inl hA)]))
                  go_wp2
                  go_ret2
                  exact ⟨ret_ii (by rw [hv.out]) (by rw [hv.out]), rfl⟩
                · by_cases hB : (most - ((s[k].toNat : Int) - 48)) / 10 < n
                  · have hv := hidden (readV_range Hok.out (by rw [HR.out, readF_none (.inr hB)]))
                    go_wp2
                    go_ret2
                    exact ⟨ret_ii (by rw [hv.out]) (by rw [hv.out]), rfl⟩
                  · have HR' := hidden (show readF most 0 s.data.toList = readF most (n * 10 + ((s[k].toNat : Int) - 48)) (s.data.toList.drop (k + 1)) by rw [HR.out, readF_more (by omega)])
                    go_wp2
                    exact ⟨⟨k + 1, n * 10 + ((s[k].toNat : Int) - 48), by omega, by go_num, by rw [Int.mul_comm 10 n], by omega, .inr (by omega), HR'.out⟩, by simp [intOf]; omega⟩
              · go_wp2
                go_ret2
                have e := hr
                rw [drop_end s k hlt, readF_end] at e
                have hv := readV_some Hok.out e
                exact ⟨ret_ii (by rw [hv]) (by rw [hv]), rfl⟩
end Go.Proofs.Ytlciajdkjchmcaa
