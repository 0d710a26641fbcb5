/- Digits and numbers: what is told of a number is read as it, and back. -/
import Derived.Test.YtlciajdkjchmcaaShow
import Derived.Test.YtlciajdkjchmcaaRead
namespace Go.Proofs.Ytlciajdkjchmcaa
open Go.RowKit

def digs (n : Nat) : List UInt8 := (dec n).map fun d => UInt8.ofNat d.toNat
def valI (n : Int) (l : List UInt8) : Int := l.foldl (fun n c => n * 10 + ((c.toNat : Int) - 48)) n

theorem digs_data (n : Nat) : (strOfNums (dec n)).data.toList = digs n := rfl
theorem digs_small {n : Nat} (h : n < 10) : digs n = [UInt8.ofNat (48 + n)] := by
  unfold digs
  rw [dec_small h]
  simp only [List.map_cons, List.map_nil]
  rw [show (48 + (n : Int)).toNat = 48 + n by omega]
theorem digs_great {n : Nat} (h : 10 ≤ n) : digs n = digs (n / 10) ++ [UInt8.ofNat (48 + n % 10)] := by
  unfold digs
  rw [dec_great h, List.map_append]
  simp only [List.map_cons, List.map_nil]
  rw [show (48 + ((n % 10 : Nat) : Int)).toNat = 48 + n % 10 by omega]
theorem digit_nat {d : Nat} (h : d < 10) : (UInt8.ofNat (48 + d)).toNat = 48 + d := by
  simp only [UInt8.toNat_ofNat']
  omega
theorem valI_snoc (n : Int) (l : List UInt8) (c : UInt8) : valI n (l ++ [c]) = valI n l * 10 + ((c.toNat : Int) - 48) := by
  unfold valI; rw [List.foldl_append]; rfl

theorem digs_facts : ∀ (k n : Nat), n ≤ k → (digs n).all isDig = true ∧ valI 0 (digs n) = n ∧ ∃ c r, digs n = c :: r ∧ (1 ≤ n → c.toNat ≠ 48) ∧ (n < 10 → r = []) := by
  intro k
  induction k with
  | zero =>
    intro n h
    obtain rfl : n = 0 := by omega
    exact ⟨by decide, by decide, _, _, rfl, fun h => absurd h (by omega), fun _ => rfl⟩
  | succ k ih =>
    intro n h
    by_cases hn : n < 10
    · rw [digs_small hn]
      have hd := digit_nat hn
      refine ⟨by simp [isDig]; omega, ?_, _, _, rfl, fun _ => by omega, fun _ => rfl⟩
      show 0 * 10 + (((UInt8.ofNat (48 + n)).toNat : Int) - 48) = n
      rw [hd]; omega
    · rw [digs_great (by omega)]
      obtain ⟨h1, h2, c, r, h3, h4, _⟩ := ih (n / 10) (by omega)
      have hd := digit_nat (show n % 10 < 10 by omega)
      refine ⟨by rw [List.all_append, h1]; simp [isDig]; omega, ?_, c, r ++ [UInt8.ofNat (48 + n % 10)], by rw [h3]; rfl, fun _ => h4 (by omega), fun h => absurd h (by omega)⟩
      rw [valI_snoc, h2, hd]; omega
theorem digs_ok (n : Nat) : decOk (digs n) = true := by
  obtain ⟨h1, _, c, r, h3, h4, h5⟩ := digs_facts n n (Nat.le_refl _)
  unfold decOk
  rw [h1, h3]
  match r, h3, h5 with
  | [], _, _ => rfl
  | b :: r, _, h5 =>
    have : ¬ n < 10 := fun h => by have := h5 h; cases this
    have := h4 (by omega)
    simp [this]
theorem valI_le : ∀ (l : List UInt8) (n : Int), l.all isDig = true → 0 ≤ n → n ≤ valI n l := by
  intro l
  induction l with
  | nil => intro n _ _; exact Int.le_refl _
  | cons c r ih =>
    intro n h hn
    simp only [List.all_cons, Bool.and_eq_true] at h
    have hc : 48 ≤ c.toNat ∧ c.toNat ≤ 57 := by simpa [isDig] using h.1
    have := ih (n * 10 + ((c.toNat : Int) - 48)) h.2 (by omega)
    show n ≤ valI (n * 10 + ((c.toNat : Int) - 48)) r
    omega
theorem readF_val (most : Int) : ∀ (l : List UInt8) (n : Int), l.all isDig = true → 0 ≤ n → l ≠ [] → readF most n l = if valI n l ≤ most then some (valI n l) else none := by
  intro l
  induction l with
  | nil => intro n _ _ h; exact absurd rfl h
  | cons c r ih =>
    intro n h hn _
    simp only [List.all_cons, Bool.and_eq_true] at h
    have hc : 48 ≤ c.toNat ∧ c.toNat ≤ 57 := by simpa [isDig] using h.1
    have hv := valI_le r (n * 10 + ((c.toNat : Int) - 48)) h.2 (by omega)
    have hV : valI n (c :: r) = valI (n * 10 + ((c.toNat : Int) - 48)) r := rfl
    by_cases hb : most < (c.toNat : Int) - 48 ∨ (most - ((c.toNat : Int) - 48)) / 10 < n
    · rw [readF_none hb, if_neg (by omega)]
    · rw [readF_more hb, hV]
      cases r with
      | nil =>
        show some _ = if (n * 10 + ((c.toNat : Int) - 48)) ≤ most then some (n * 10 + ((c.toNat : Int) - 48)) else none
        rw [if_pos (by omega)]
      | cons b r => exact ih _ h.2 (by omega) (by simp)

/-- digits that are right are the digits of their number -/
theorem digs_val : ∀ (k : Nat) (l : List UInt8), l.length = k + 1 → decOk l = true → ∃ n : Nat, valI 0 l = n ∧ digs n = l ∧ (1 ≤ k → 10 ≤ n) ∧ (k = 0 → n < 10) ∧ ((∃ c r, l = c :: r ∧ c.toNat ≠ 48) → 1 ≤ n) := by
  intro k
  induction k with
  | zero =>
    intro l hl hok
    match l, hl with
    | [c], _ =>
      have hd : 48 ≤ c.toNat ∧ c.toNat ≤ 57 := by simpa [isDig] using isDig_of _ hok
      refine ⟨c.toNat - 48, ?_, ?_, fun h => absurd h (by omega), fun _ => by omega, ?_⟩
      · show 0 * 10 + ((c.toNat : Int) - 48) = _
        omega
      · rw [digs_small (by omega), show 48 + (c.toNat - 48) = c.toNat by omega]; simp
      · rintro ⟨c', r, e, h⟩
        simp only [List.cons.injEq] at e
        obtain ⟨rfl, _⟩ := e
        omega
  | succ k ih =>
    intro l hl hok
    obtain ⟨i, c, rfl⟩ : ∃ i c, l = i ++ [c] := by
      rcases List.eq_nil_or_concat l with rfl | ⟨i, c, rfl⟩
      · simp at hl
      · exact ⟨i, c, by simp⟩
    have hil : i.length = k + 1 := by simp at hl; omega
    obtain ⟨a, r, rfl⟩ : ∃ a r, i = a :: r := by
      cases i with
      | nil => simp at hil
      | cons a r => exact ⟨a, r, rfl⟩
    have hall := isDig_of _ hok
    rw [List.all_append, Bool.and_eq_true] at hall
    have hd : 48 ≤ c.toNat ∧ c.toNat ≤ 57 := by simpa [isDig] using hall.2
    have ha : a.toNat ≠ 48 := by
      unfold decOk at hok
      rw [Bool.and_eq_true] at hok
      have := hok.2
      cases r <;> simpa using this
    have hok' : decOk (a :: r) = true := by
      unfold decOk
      rw [hall.1]
      cases r with
      | nil => rfl
      | cons => simp [ha]
    obtain ⟨m, h1, h2, _, _, h5⟩ := ih (a :: r) hil hok'
    have hm := h5 ⟨a, r, rfl, ha⟩
    refine ⟨m * 10 + (c.toNat - 48), ?_, ?_, fun _ => by omega, fun h => absurd h (by omega), fun _ => by omega⟩
    · rw [valI_snoc, h1]; omega
    · rw [digs_great (by omega), show (m * 10 + (c.toNat - 48)) / 10 = m by omega, h2, show 48 + (m * 10 + (c.toNat - 48)) % 10 = c.toNat by omega]
      simp

theorem read_digs (n : Nat) (most : Int) : readV (digs n) most = if (n : Int) ≤ most then ((n : Int), 0) else (0, 2) := by
  obtain ⟨h1, h2, c, r, h3, _, _⟩ := digs_facts n n (Nat.le_refl _)
  have hr := readF_val most (digs n) 0 h1 (Int.le_refl _) (by rw [h3]; simp)
  rw [h2] at hr
  by_cases h : (n : Int) ≤ most
  · rw [if_pos h] at hr
    rw [if_pos h, readV_some (digs_ok n) hr]
  · rw [if_neg h] at hr
    rw [if_neg h, readV_range (digs_ok n) hr]
/-- what is read of a text -/
theorem read_ways (s : ByteArray) (most : Int) : readV s.data.toList most = (0, 3) ∨ readV s.data.toList most = (0, 2) ∨ ∃ n : Nat, readV s.data.toList most = ((n : Int), 0) ∧ (n : Int) ≤ most ∧ strOfNums (showV n) = s := by
  by_cases hok : decOk s.data.toList = true
  · have hne : s.data.toList ≠ [] := by
      intro e
      rw [e] at hok
      cases hok
    have hlen : ∃ k, s.data.toList.length = k + 1 := by
      cases h : s.data.toList with
      | nil => exact absurd h hne
      | cons a r => exact ⟨r.length, rfl⟩
    obtain ⟨k, hk⟩ := hlen
    obtain ⟨n, h1, h2, _⟩ := digs_val k _ hk hok
    have hr := read_digs n most
    rw [h2] at hr
    by_cases h : (n : Int) ≤ most
    · rw [if_pos h] at hr
      refine .inr (.inr ⟨n, hr, h, ?_⟩)
      apply Go.WideShapes.bytes_inj
      rw [← h2, showV, if_neg (by omega)]
      exact digs_data n
    · rw [if_neg h] at hr
      exact .inr (.inl hr)
  · exact .inl (readV_form (by simpa using hok))
end Go.Proofs.Ytlciajdkjchmcaa
