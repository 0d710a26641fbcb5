/- Classes of numbers by a key: two have one class just if they have one key; numbered in the order of their least ones. Of no program. -/
import Derived.Test.YtanjpajnciifiaaBase
namespace Go.Proofs.Ytanjpajnciifiaa

/-- from a on, n at most: the first that p holds of, or the one behind them all -/
def seek (p : Nat → Bool) : Nat → Nat → Nat
  | 0, a => a
  | n + 1, a => if p a then a else seek p n (a + 1)
theorem seek_ge (p : Nat → Bool) : ∀ n a, a ≤ seek p n a
  | 0, a => Nat.le_refl a
  | n + 1, a => by
    unfold seek
    split
    · exact Nat.le_refl a
    · exact Nat.le_trans (Nat.le_succ a) (seek_ge p n (a + 1))
theorem seek_le (p : Nat → Bool) : ∀ n a, seek p n a ≤ a + n
  | 0, a => Nat.le_refl a
  | n + 1, a => by
    unfold seek
    split
    · exact Nat.le_add_right _ _
    · have := seek_le p n (a + 1); omega
theorem seek_min (p : Nat → Bool) : ∀ n a x, a ≤ x → x < seek p n a → p x = false
  | 0, a, x, h1, h2 => by unfold seek at h2; omega
  | n + 1, a, x, h1, h2 => by
    unfold seek at h2
    split at h2
    · omega
    · rename_i hp
      by_cases hx : x = a
      · subst hx; simpa using hp
      · exact seek_min p n (a + 1) x (by omega) h2
theorem seek_get (p : Nat → Bool) : ∀ n a, p (a + n) = true → p (seek p n a) = true
  | 0, a, h => h
  | n + 1, a, h => by
    unfold seek
    split
    · assumption
    · exact seek_get p n (a + 1) (by rw [← h]; congr 1; omega)

variable {κ : Type} [DecidableEq κ]
/-- the least number of b's key -/
def fstK (k : Nat → κ) (b : Nat) : Nat := seek (fun a => decide (k a = k b)) b 0
theorem fst_le (k : Nat → κ) (b : Nat) : fstK k b ≤ b := by
  have := seek_le (fun a => decide (k a = k b)) b 0
  unfold fstK; omega
theorem fst_key (k : Nat → κ) (b : Nat) : k (fstK k b) = k b := by
  have := seek_get (fun a => decide (k a = k b)) b 0 (by simp)
  exact of_decide_eq_true this
theorem fst_min (k : Nat → κ) {a b : Nat} (h : a < fstK k b) : k a ≠ k b := by
  have := seek_min (fun a => decide (k a = k b)) b 0 a (Nat.zero_le a) h
  simpa using this
theorem fst_eq (k : Nat → κ) {a b : Nat} (h : k a = k b) (hm : ∀ x, x < a → k x ≠ k b) : fstK k b = a := by
  by_cases h1 : fstK k b < a
  · exact absurd (fst_key k b) (hm _ h1)
  by_cases h2 : a < fstK k b
  · exact absurd h (fst_min k h2)
  omega
theorem fst_same (k : Nat → κ) {a b : Nat} (h : k a = k b) : fstK k a = fstK k b :=
  fst_eq k ((fst_key k b).trans h.symm) fun x hx => by
    rw [h]; exact fst_min k hx
theorem fst_fst (k : Nat → κ) (b : Nat) : fstK k (fstK k b) = fstK k b := fst_same k (fst_key k b)
/-- below n: how many are the least of their key -/
def cntK (k : Nat → κ) : Nat → Nat
  | 0 => 0
  | n + 1 => cntK k n + if fstK k n = n then 1 else 0
theorem cnt_new (k : Nat → κ) {n : Nat} (h : fstK k n = n) : cntK k (n + 1) = cntK k n + 1 := by
  show cntK k n + (if fstK k n = n then 1 else 0) = _
  rw [if_pos h]
theorem cnt_old (k : Nat → κ) {n : Nat} (h : fstK k n ≠ n) : cntK k (n + 1) = cntK k n := by
  show cntK k n + (if fstK k n = n then 1 else 0) = _
  rw [if_neg h]; rfl
theorem cnt_step (k : Nat → κ) (n : Nat) : cntK k n ≤ cntK k (n + 1) ∧ cntK k (n + 1) ≤ cntK k n + 1 := by
  by_cases h : fstK k n = n
  · rw [cnt_new k h]; omega
  · rw [cnt_old k h]; omega
theorem cnt_mono (k : Nat → κ) {m n : Nat} (h : m ≤ n) : cntK k m ≤ cntK k n := by
  induction n with
  | zero => rw [Nat.le_zero.1 h]; exact Nat.le_refl _
  | succ n ih =>
    by_cases e : m = n + 1
    · rw [e]; exact Nat.le_refl _
    · exact Nat.le_trans (ih (by omega)) (cnt_step k n).1
theorem cnt_lt (k : Nat → κ) {m n : Nat} (h : m < n) (hm : fstK k m = m) : cntK k m < cntK k n := by
  have h1 := cnt_new k hm
  have h2 := cnt_mono k (show m + 1 ≤ n from h)
  omega
theorem cnt_le (k : Nat → κ) (n : Nat) : cntK k n ≤ n := by
  induction n with
  | zero => exact Nat.le_refl _
  | succ n ih => have := (cnt_step k n).2; omega
theorem cnt_one (k : Nat → κ) {n : Nat} (h : 0 < n) : 1 ≤ cntK k n := by
  have := cnt_mono k (show 0 + 1 ≤ n from h)
  rw [cnt_new k (show fstK k 0 = 0 by have := fst_le k 0; omega)] at this
  omega
/-- the class of b -/
def clsK (k : Nat → κ) (b : Nat) : Nat := cntK k (fstK k b)
theorem cls_new (k : Nat → κ) {b : Nat} (h : fstK k b = b) : clsK k b = cntK k b := by unfold clsK; rw [h]
theorem cls_first (k : Nat → κ) (b : Nat) : clsK k (fstK k b) = clsK k b := by unfold clsK; rw [fst_fst]
theorem cls_same (k : Nat → κ) {a b : Nat} (h : k a = k b) : clsK k a = clsK k b := by unfold clsK; rw [fst_same k h]
theorem cls_lt (k : Nat → κ) {b n : Nat} (h : b < n) : clsK k b < cntK k n :=
  cnt_lt k (Nat.lt_of_le_of_lt (fst_le k b) h) (fst_fst k b)
theorem cls_old (k : Nat → κ) {b : Nat} (h : fstK k b ≠ b) : clsK k b < cntK k b :=
  cnt_lt k (by have := fst_le k b; omega) (fst_fst k b)
theorem cls_le (k : Nat → κ) (b : Nat) : clsK k b ≤ cntK k b := cnt_mono k (fst_le k b)
theorem cls_key (k : Nat → κ) {a b : Nat} : clsK k a = clsK k b ↔ k a = k b := by
  constructor
  · intro h
    unfold clsK at h
    by_cases h1 : fstK k a < fstK k b
    · have := cnt_lt k h1 (fst_fst k a); omega
    by_cases h2 : fstK k b < fstK k a
    · have := cnt_lt k h2 (fst_fst k b); omega
    have e : fstK k a = fstK k b := by omega
    rw [← fst_key k a, e, fst_key k b]
  · exact cls_same k
/-- each number below the count is a class -/
theorem cls_all (k : Nat → κ) {c : Nat} : ∀ {n : Nat}, c < cntK k n → ∃ b, b < n ∧ fstK k b = b ∧ cntK k b = c
  | 0, h => by simp [cntK] at h
  | n + 1, h => by
    by_cases e : fstK k n = n
    · by_cases hc : c < cntK k n
      · obtain ⟨b, h1, h2⟩ := cls_all k hc
        exact ⟨b, by omega, h2⟩
      · rw [cnt_new k e] at h
        exact ⟨n, by omega, e, by omega⟩
    · rw [cnt_old k e] at h
      obtain ⟨b, h1, h2⟩ := cls_all k h
      exact ⟨b, by omega, h2⟩
/-- keys that are equal at the same numbers make the same classes -/
theorem fst_congr {κ' : Type} [DecidableEq κ'] {k : Nat → κ} {k' : Nat → κ'} {n : Nat} (h : ∀ a b, a < n → b < n → (k a = k b ↔ k' a = k' b)) {b : Nat} (hb : b < n) : fstK k b = fstK k' b :=
  fst_eq k ((h _ _ (Nat.lt_of_le_of_lt (fst_le k' b) hb) hb).2 (fst_key k' b)) fun x hx g =>
    fst_min k' hx ((h _ _ (by have := fst_le k' b; omega) hb).1 g)
theorem cnt_congr {κ' : Type} [DecidableEq κ'] {k : Nat → κ} {k' : Nat → κ'} {n : Nat} (h : ∀ a b, a < n → b < n → (k a = k b ↔ k' a = k' b)) : ∀ {m : Nat}, m ≤ n → cntK k m = cntK k' m
  | 0, _ => rfl
  | m + 1, hm => by
    show cntK k m + (if fstK k m = m then 1 else 0) = cntK k' m + (if fstK k' m = m then 1 else 0)
    rw [cnt_congr h (by omega), fst_congr h (show m < n by omega)]
theorem cls_congr {κ' : Type} [DecidableEq κ'] {k : Nat → κ} {k' : Nat → κ'} {n : Nat} (h : ∀ a b, a < n → b < n → (k a = k b ↔ k' a = k' b)) {b : Nat} (hb : b < n) : clsK k b = clsK k' b := by
  unfold clsK
  rw [fst_congr h hb, cnt_congr h (by have := fst_le k' b; omega)]
/-- the classes of a key and a further mark: of the classes and the mark -/
theorem pair_key (k : Nat → κ) (f : Nat → Bool) (a b : Nat) : ((clsK k a, f a) = (clsK k b, f b)) ↔ ((k a, f a) = (k b, f b)) := by
  simp only [Prod.mk.injEq, cls_key]
/-- more marks: not fewer classes -/
theorem pair_ge (k : Nat → κ) (f : Nat → Bool) : ∀ n, cntK k n ≤ cntK (fun a => (k a, f a)) n
  | 0 => Nat.le_refl _
  | n + 1 => by
    have ih := pair_ge k f n
    by_cases e : fstK k n = n
    · have e2 : fstK (fun a => (k a, f a)) n = n :=
        fst_eq _ rfl fun x hx g => by
          rw [← e] at hx
          exact fst_min k hx (by simpa using (Prod.mk.inj g).1)
      rw [cnt_new k e, cnt_new _ e2]; omega
    · rw [cnt_old k e]
      have := (cnt_step (fun a => (k a, f a)) n).1
      omega
/-- numbers below m, each once: m at most -/
theorem few (m : Nat) : ∀ (l : List Nat), l.Nodup → (∀ x ∈ l, x < m) → l.length ≤ m := by
  induction m with
  | zero =>
    intro l _ h
    cases l with
    | nil => exact Nat.le_refl _
    | cons x l => exact absurd (h x (by simp)) (Nat.not_lt_zero x)
  | succ m ih =>
    intro l hn h
    by_cases hm : m ∈ l
    · have h1 := ih (l.erase m) (hn.erase m) fun x hx => by
        have hx2 := (List.Nodup.mem_erase_iff hn).1 hx
        have := h x hx2.2
        have := hx2.1
        omega
      rw [List.length_erase_of_mem hm] at h1
      omega
    · have := ih l hn fun x hx => by
        have h1 := h x hx
        have h2 : x ≠ m := fun e => hm (e ▸ hx)
        omega
      omega
/-- the least ones, from 0 on -/
def leastK (k : Nat → κ) (n : Nat) : List Nat := (List.range n).filter fun a => decide (fstK k a = a)
theorem least_len (k : Nat → κ) (n : Nat) : (leastK k n).length = cntK k n := by
  induction n with
  | zero => rfl
  | succ n ih =>
    unfold leastK at ih ⊢
    rw [List.range_succ, List.filter_append, List.length_append, ih]
    by_cases e : fstK k n = n
    · rw [cnt_new k e]; simp [e]
    · rw [cnt_old k e]; simp [e]
theorem least_mem (k : Nat → κ) {n a : Nat} : a ∈ leastK k n ↔ a < n ∧ fstK k a = a := by
  unfold leastK
  simp
/-- keys below m: m classes at most -/
theorem cnt_few (k : Nat → Nat) (m n : Nat) (h : ∀ a, a < n → k a < m) : cntK k n ≤ m := by
  rw [← least_len, ← List.length_map (f := k)]
  refine few m _ ?_ fun x hx => ?_
  · have hn : (leastK k n).Nodup := List.Nodup.sublist List.filter_sublist List.nodup_range
    refine (List.pairwise_map.2 ?_)
    refine List.Pairwise.imp_of_mem ?_ hn
    intro a b ha hb hab e
    rw [least_mem] at ha hb
    exact hab (by rw [← ha.2, fst_same k e, hb.2])
  · obtain ⟨a, ha, rfl⟩ := List.mem_map.1 hx
    exact h a ((least_mem k).1 ha).1
theorem pair_le (k : Nat → κ) (f : Nat → Bool) (n : Nat) : cntK (fun a => (k a, f a)) n ≤ 2 * cntK k n := by
  have e : cntK (fun a => (k a, f a)) n = cntK (fun a => 2 * clsK k a + (f a).toNat) n :=
    cnt_congr (n := n) (fun a b _ _ => by
      simp only [Prod.mk.injEq]
      rw [← cls_key (k := k)]
      cases f a <;> cases f b <;> simp <;> omega) (Nat.le_refl n)
  rw [e]
  refine cnt_few _ _ _ fun a ha => ?_
  have := cls_lt k ha
  cases f a <;> simp <;> omega
end Go.Proofs.Ytanjpajnciifiaa
