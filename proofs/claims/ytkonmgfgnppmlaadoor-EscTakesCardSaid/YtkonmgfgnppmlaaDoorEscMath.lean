/- The Chars of bytes, and how a text is read: plain mathematics. -/
import Derived.Test.YtkonmgfgnppmlaaDoorUnhex
namespace Go.Proofs.YtkonmgfgnppmlaaDoor
open Go.RowKit

/-- the Char of a byte, as numbers, as a text, as bytes -/
def chrN (n : Int) : List Int :=
  if n = 10 then [92, 110] else if n = 9 then [92, 116] else if n = 13 then [92, 114] else if n = 34 ∨ n = 92 then [92, n]
  else if 32 ≤ n ∧ n ≤ 126 then [n] else [92, 120, hexDigit (n / 16), hexDigit (n % 16)]
def chrB (n : Int) : ByteArray := strOfNums (chrN n)
def chrL (n : Int) : List UInt8 := (chrN n).map fun i => UInt8.ofNat i.toNat
theorem chrB_data (n : Int) : (chrB n).data.toList = chrL n := by rw [chrB, strOfNums_data]; rfl
/-- for which byte a name stands behind a backslash -/
def namedV (c : UInt8) : Option Int :=
  if c = 110 then some 10 else if c = 116 then some 9 else if c = 114 then some 13 else if c = 34 then some 34 else if c = 92 then some 92 else none
/-- does a Char begin so -/
def goesB (l : List UInt8) : Bool := (List.range 256).any fun n => l.isPrefixOf (chrL (n : Int))
def hexV : List UInt8 → Int × Int × Int
  | a :: b :: _ => if 0 ≤ digOf a ∧ 0 ≤ digOf b ∧ chrL (digOf a * 16 + digOf b) = [92, 120, a, b] then (digOf a * 16 + digOf b, 4, 0) else (0, 0, 3)
  | r => if goesB (92 :: 120 :: r) then (0, 0, 4) else (0, 0, 3)
def escV : List UInt8 → Int × Int × Int
  | [] => (0, 0, 4)
  | d :: r => if d = 120 then hexV r else (match namedV d with | some v => (v, 2, 0) | none => (0, 0, 3))
/-- the byte whose Char a text begins with, how many bytes that has, and why there is none -/
def rdV : List UInt8 → Int × Int × Int
  | [] => (0, 0, 3)
  | c :: r => if c = 92 then escV r else if 32 ≤ c ∧ c ≤ 126 then ((c.toNat : Int), 1, 0) else (0, 0, 3)

theorem chr_shape : ∀ n : Fin 256,
    (chrL (n.val : Int) = [92, (chrL (n.val : Int)).getD 1 0] ∧ (chrL (n.val : Int)).getD 1 0 ≠ 120 ∧ namedV ((chrL (n.val : Int)).getD 1 0) = some (n.val : Int)) ∨
    (chrL (n.val : Int) = [UInt8.ofNat n.val] ∧ UInt8.ofNat n.val ≠ 92 ∧ UInt8.ofNat n.val ≠ 34 ∧ 32 ≤ UInt8.ofNat n.val ∧ UInt8.ofNat n.val ≤ 126 ∧ (UInt8.ofNat n.val).toNat = n.val) ∨
    (chrL (n.val : Int) = [92, 120, (chrL (n.val : Int)).getD 2 0, (chrL (n.val : Int)).getD 3 0] ∧ 0 ≤ digOf ((chrL (n.val : Int)).getD 2 0) ∧ 0 ≤ digOf ((chrL (n.val : Int)).getD 3 0) ∧
      digOf ((chrL (n.val : Int)).getD 2 0) * 16 + digOf ((chrL (n.val : Int)).getD 3 0) = (n.val : Int)) := by decide +kernel
theorem named_all : ∀ c : Fin 256, (namedV (UInt8.ofNat c.val)).isSome = true → 0 ≤ (namedV (UInt8.ofNat c.val)).getD 0 ∧ (namedV (UInt8.ofNat c.val)).getD 0 < 256 ∧ chrL ((namedV (UInt8.ofNat c.val)).getD 0) = [92, UInt8.ofNat c.val] := by decide +kernel
theorem named_chr {d : UInt8} {v : Int} (h : namedV d = some v) : 0 ≤ v ∧ v < 256 ∧ chrL v = [92, d] := by
  have := named_all ⟨d.toNat, d.toNat_lt⟩
  simp only [UInt8.ofNat_toNat, h] at this
  exact this rfl
theorem plain_chr : ∀ c : Fin 256, UInt8.ofNat c.val ≠ 92 → UInt8.ofNat c.val ≠ 34 → 32 ≤ UInt8.ofNat c.val → UInt8.ofNat c.val ≤ 126 → chrL (c.val : Int) = [UInt8.ofNat c.val] := by decide +kernel
theorem rd_part : ∀ n : Fin 256, ∀ j : Fin 4, 0 < j.val → j.val < (chrL (n.val : Int)).length → rdV ((chrL (n.val : Int)).take j.val) = (0, 0, 4) := by decide +kernel

theorem rd_chr (n : Nat) (h : n < 256) (r : List UInt8) : rdV (chrL (n : Int) ++ r) = ((n : Int), ((chrL (n : Int)).length : Int), 0) := by
  rcases chr_shape ⟨n, h⟩ with ⟨h1, h2, h3⟩ | ⟨h1, h2, _, h4, h5, h6⟩ | ⟨h1, h2, h3, h4⟩
  · simp only at h1 h2 h3
    generalize (chrL (n : Int)).getD 1 0 = d at h1 h2 h3
    rw [h1]
    simp [rdV, escV, h2, h3]
  · simp only at h1 h2 h4 h5 h6
    rw [h1]
    simp [rdV, h2, h4, h5]
    omega
  · simp only at h1 h2 h3 h4
    generalize hd : (chrL (n : Int)).getD 2 0 = a at h1 h2 h3 h4
    generalize he : (chrL (n : Int)).getD 3 0 = b at h1 h2 h3 h4
    rw [h1]
    simp [rdV, escV, hexV, h2, h3, h4, h1]
theorem chr_head (n : Nat) (h : n < 256) : ∃ c r, chrL (n : Int) = c :: r ∧ c ≠ 34 := by
  rcases chr_shape ⟨n, h⟩ with ⟨h1, _⟩ | ⟨h1, _, h3, _⟩ | ⟨h1, _⟩
  · exact ⟨_, _, h1, by decide⟩
  · exact ⟨_, _, h1, h3⟩
  · exact ⟨_, _, h1, by decide⟩
theorem chr_pos (n : Nat) (h : n < 256) : 0 < (chrL (n : Int)).length := by
  obtain ⟨c, r, e, _⟩ := chr_head n h
  rw [e]
  simp
theorem chr_le (n : Nat) (h : n < 256) : (chrL (n : Int)).length ≤ 4 := by
  rcases chr_shape ⟨n, h⟩ with ⟨h1, _⟩ | ⟨h1, _, h3, _⟩ | ⟨h1, _⟩ <;> (simp only at h1; rw [h1]; simp)
/-- what is read is a Char that stands there, or nothing -/
theorem rd_ways (l : List UInt8) (h34 : l.head? ≠ some 34) : (∃ n : Nat, n < 256 ∧ rdV l = ((n : Int), ((chrL (n : Int)).length : Int), 0) ∧ chrL (n : Int) <+: l) ∨ rdV l = (0, 0, 3) ∨ rdV l = (0, 0, 4) := by
  match l with
  | [] => exact .inr (.inl rfl)
  | c :: r =>
    by_cases hc : c = 92
    · subst hc
      match r with
      | [] => exact .inr (.inr rfl)
      | d :: r =>
        by_cases hd : d = 120
        · subst hd
          have tail : ∀ r : List UInt8, (if goesB (92 :: 120 :: r) = true then ((0, 0, 4) : Int × Int × Int) else (0, 0, 3)) = (0, 0, 3) ∨ (if goesB (92 :: 120 :: r) = true then ((0, 0, 4) : Int × Int × Int) else (0, 0, 3)) = (0, 0, 4) := fun r => by
            split
            · exact .inr rfl
            · exact .inl rfl
          match r with
          | [] => exact .inr (tail [])
          | [a] => exact .inr (tail [a])
          | a :: b :: r =>
            by_cases hx : 0 ≤ digOf a ∧ 0 ≤ digOf b ∧ chrL (digOf a * 16 + digOf b) = [92, 120, a, b]
            · have ha := (digOf_all a).1
              have hb := (digOf_all b).1
              obtain ⟨n, hn⟩ := Int.eq_ofNat_of_zero_le (show 0 ≤ digOf a * 16 + digOf b by omega)
              refine .inl ⟨n, by omega, ?_, ?_⟩
              · show hexV (a :: b :: r) = _
                rw [hexV, if_pos hx, hn]
                rw [hn] at hx
                rw [hx.2.2]
                rfl
              · rw [hn] at hx
                rw [hx.2.2]
                exact ⟨r, rfl⟩
            · refine .inr (.inl ?_)
              show hexV (a :: b :: r) = _
              rw [hexV, if_neg hx]
        · have e : rdV (92 :: d :: r) = (match namedV d with | some v => (v, 2, 0) | none => (0, 0, 3)) := by
            show escV (d :: r) = _
            rw [escV, if_neg hd]
          rw [e]
          cases hv : namedV d with
          | none => exact .inr (.inl rfl)
          | some v =>
            obtain ⟨h0, h1, h2⟩ := named_chr hv
            obtain ⟨n, rfl⟩ := Int.eq_ofNat_of_zero_le h0
            exact .inl ⟨n, by omega, by rw [h2]; rfl, by rw [h2]; exact ⟨r, rfl⟩⟩
    · have e : rdV (c :: r) = if 32 ≤ c ∧ c ≤ 126 then ((c.toNat : Int), 1, 0) else (0, 0, 3) := by rw [rdV, if_neg hc]
      rw [e]
      by_cases hp : 32 ≤ c ∧ c ≤ 126
      · have hn := plain_chr ⟨c.toNat, c.toNat_lt⟩
        simp only [UInt8.ofNat_toNat] at hn
        have hn := hn hc (by simpa using h34) hp.1 hp.2
        rw [if_pos hp]
        exact .inl ⟨c.toNat, c.toNat_lt, by rw [hn]; rfl, by rw [hn]; exact ⟨r, rfl⟩⟩
      · rw [if_neg hp]
        exact .inr (.inl rfl)
/-- no Char stands there: it reads as none -/
theorem rd_none {l : List UInt8} (h34 : l.head? ≠ some 34) (h : ∀ n : Nat, n < 256 → ¬ chrL (n : Int) <+: l) : (rdV l).1 = 0 ∧ (rdV l).2.1 = 0 ∧ (rdV l).2.2 ≠ 0 := by
  rcases rd_ways l h34 with ⟨n, hn, _, hp⟩ | e | e
  · exact absurd hp (h n hn)
  · rw [e]; exact ⟨rfl, rfl, by decide⟩
  · rw [e]; exact ⟨rfl, rfl, by decide⟩
theorem rd_some {l : List UInt8} (n : Nat) (hn : n < 256) (h : chrL (n : Int) <+: l) : rdV l = ((n : Int), ((chrL (n : Int)).length : Int), 0) := by
  obtain ⟨r, rfl⟩ := h
  exact rd_chr n hn r
/-- too short just if it is less than a Char -/
theorem rd_short {l : List UInt8} (h0 : l ≠ []) (n : Nat) (hn : n < 256) (hl : l.length < (chrL (n : Int)).length) (h : l <+: chrL (n : Int)) : rdV l = (0, 0, 4) := by
  have h4 := chr_le n hn
  have hp : 0 < l.length := List.length_pos_iff.2 h0
  have := rd_part ⟨n, hn⟩ ⟨l.length, by omega⟩ hp hl
  simp only at this
  rwa [← List.prefix_iff_eq_take.1 h] at this
theorem rd_long {l : List UInt8} (h : (rdV l).2.2 = 4) : ∃ n : Nat, n < 256 ∧ l.length < (chrL (n : Int)).length ∧ l <+: chrL (n : Int) := by
  have go : ∀ r : List UInt8, r.length < 2 → goesB (92 :: 120 :: r) = true → ∃ n : Nat, n < 256 ∧ (92 :: 120 :: r).length < (chrL (n : Int)).length ∧ (92 :: 120 :: r) <+: chrL (n : Int) := fun r hr hg => by
    obtain ⟨n, hn, hp⟩ := List.any_eq_true.1 hg
    have hn : n < 256 := List.mem_range.1 hn
    have hp : (92 :: 120 :: r) <+: chrL (n : Int) := List.isPrefixOf_iff_prefix.1 hp
    refine ⟨n, hn, ?_, hp⟩
    rcases chr_shape ⟨n, hn⟩ with ⟨h1, h2, _⟩ | ⟨h1, h2, _⟩ | ⟨h1, _⟩
    · simp only at h1 h2
      rw [h1] at hp
      obtain ⟨x, hx⟩ := hp
      simp at hx
      exact absurd hx.1.symm h2
    · simp only at h1 h2
      rw [h1] at hp
      obtain ⟨x, hx⟩ := hp
      simp at hx
    · simp only at h1
      rw [h1]
      simp
      omega
  match l with
  | [] => cases h
  | c :: r =>
    by_cases hc : c = 92
    · subst hc
      match r with
      | [] => exact ⟨10, by decide, by decide, by decide⟩
      | d :: r =>
        by_cases hd : d = 120
        · subst hd
          match r with
          | [] =>
            refine go [] (by decide) ?_
            change (if goesB (92 :: 120 :: []) = true then ((0, 0, 4) : Int × Int × Int) else (0, 0, 3)).2.2 = 4 at h
            split at h
            · assumption
            · cases h
          | [a] =>
            refine go [a] (by simp) ?_
            change (if goesB (92 :: 120 :: [a]) = true then ((0, 0, 4) : Int × Int × Int) else (0, 0, 3)).2.2 = 4 at h
            split at h
            · assumption
            · cases h
          | a :: b :: r =>
            change (hexV (a :: b :: r)).2.2 = 4 at h
            rw [hexV] at h
            split at h <;> cases h
        · change (escV (d :: r)).2.2 = 4 at h
          rw [escV, if_neg hd] at h
          cases hv : namedV d <;> rw [hv] at h <;> cases h
    · rw [rdV, if_neg hc] at h
      split at h <;> cases h

/-! ### the text between quotation marks -/
def scanV : Nat → List UInt8 → List UInt8 × Nat × Int
  | 0, _ => ([], 0, 4)
  | _ + 1, [] => ([], 0, 4)
  | f + 1, c :: r => if c = 34 then ([], 1, 0) else if (rdV (c :: r)).2.2 = 0 then
      (if (scanV f ((c :: r).drop (rdV (c :: r)).2.1.toNat)).2.2 = 0 then (UInt8.ofNat (rdV (c :: r)).1.toNat :: (scanV f ((c :: r).drop (rdV (c :: r)).2.1.toNat)).1, (rdV (c :: r)).2.1.toNat + (scanV f ((c :: r).drop (rdV (c :: r)).2.1.toNat)).2.1, 0)
        else ([], 0, (scanV f ((c :: r).drop (rdV (c :: r)).2.1.toNat)).2.2)) else ([], 0, (rdV (c :: r)).2.2)
/-- .. behind what has been read -/
def comb (out : List UInt8) (i : Nat) (y : List UInt8 × Nat × Int) : List UInt8 × Nat × Int := if y.2.2 = 0 then (out ++ y.1, i + y.2.1, 0) else ([], 0, y.2.2)
theorem comb_none (out : List UInt8) (i f : Nat) : comb out i (scanV (f + 1) []) = ([], 0, 4) := rfl
theorem comb_end (out : List UInt8) (i f : Nat) (r : List UInt8) : comb out i (scanV (f + 1) (34 :: r)) = (out, i + 1, 0) := by simp [scanV, comb]
theorem comb_bad (out : List UInt8) (i f : Nat) (c : UInt8) (r : List UInt8) (hc : c ≠ 34) (h : (rdV (c :: r)).2.2 ≠ 0) : comb out i (scanV (f + 1) (c :: r)) = ([], 0, (rdV (c :: r)).2.2) := by
  rw [scanV, if_neg hc, if_neg h, comb, if_neg h]
theorem comb_more (out : List UInt8) (i f : Nat) (c : UInt8) (r : List UInt8) (hc : c ≠ 34) (n : Nat) (h : rdV (c :: r) = ((n : Int), ((chrL (n : Int)).length : Int), 0)) :
    comb out i (scanV (f + 1) (c :: r)) = comb (out ++ [UInt8.ofNat n]) (i + (chrL (n : Int)).length) (scanV f ((c :: r).drop (chrL (n : Int)).length)) := by
  rw [scanV, if_neg hc, h]
  simp only [if_true, Int.toNat_natCast]
  by_cases he : (scanV f ((c :: r).drop (chrL (n : Int)).length)).2.2 = 0
  · rw [if_pos he, comb, comb, if_pos he]
    simp [Nat.add_assoc]
  · rw [if_neg he, comb, comb, if_neg he, if_neg he]
def takeV (l : List UInt8) (i : Int) : List UInt8 × Nat × Int :=
  if i < 0 ∨ (l.length : Int) < i then ([], 0, 2) else if (l.drop i.toNat).head? = some 34 then comb [] (i.toNat + 1) (scanV (l.length + 1) (l.drop (i.toNat + 1))) else ([], 0, 5)
def getV (l : List UInt8) : List UInt8 × Int := if (takeV l 0).2.2 ≠ 0 then ([], (takeV l 0).2.2) else if (takeV l 0).2.1 < l.length then ([], 3) else ((takeV l 0).1, 0)

/-! ### what is put is taken -/
def chrs (l : List UInt8) : List UInt8 := l.flatMap fun c => chrL (c.toNat : Int)
def putL (l : List UInt8) : List UInt8 := 34 :: (chrs l ++ [34])
theorem chrs_cons (c : UInt8) (l : List UInt8) : chrs (c :: l) = chrL (c.toNat : Int) ++ chrs l := by simp [chrs]
theorem chrs_append (a b : List UInt8) : chrs (a ++ b) = chrs a ++ chrs b := by simp [chrs]
theorem chrs_le : ∀ l : List UInt8, (chrs l).length ≤ 4 * l.length
  | [] => by simp [chrs]
  | c :: l => by
    have := chrs_le l
    have := chr_le c.toNat c.toNat_lt
    rw [chrs_cons, List.length_append, List.length_cons]
    omega
theorem scan_put : ∀ (s : List UInt8) (f : Nat) (r : List UInt8), s.length ≤ f → scanV (f + 1) (chrs s ++ 34 :: r) = (s, (chrs s).length + 1, 0)
  | [], f, r, _ => by simp [chrs, scanV]
  | c :: s, f, r, h => by
    obtain ⟨f, rfl⟩ : ∃ g, f = g + 1 := ⟨f - 1, by simp at h; omega⟩
    obtain ⟨d, t, e, hd⟩ := chr_head c.toNat c.toNat_lt
    have hr := rd_chr c.toNat c.toNat_lt (chrs s ++ 34 :: r)
    have hdrop : (chrL (c.toNat : Int) ++ (chrs s ++ 34 :: r)).drop (chrL (c.toNat : Int)).length = chrs s ++ 34 :: r := by simp
    have ih := scan_put s f r (by simp at h; omega)
    rw [chrs_cons, List.append_assoc, List.length_append]
    generalize (chrL (c.toNat : Int)).length = m at *
    rw [e, List.cons_append] at hr hdrop ⊢
    rw [scanV, if_neg hd, hr]
    simp only [if_true, Int.toNat_natCast]
    rw [hdrop, ih]
    simp
    omega
theorem scan_ok : ∀ (f : Nat) (l t : List UInt8) (k : Nat), scanV f l = (t, k, 0) → k ≤ l.length ∧ l.take k = chrs t ++ [34] ∧ k = (chrs t).length + 1
  | 0, l, t, k, h => by simp [scanV] at h
  | f + 1, [], t, k, h => by simp [scanV] at h
  | f + 1, c :: r, t, k, h => by
    by_cases hc : c = 34
    · subst hc
      simp [scanV] at h
      obtain ⟨rfl, rfl⟩ := h
      simp [chrs]
    · rw [scanV, if_neg hc] at h
      rcases rd_ways (c :: r) (by simpa using hc) with ⟨n, hn, e, hp⟩ | e | e
      · rw [e] at h
        simp only [if_true, Int.toNat_natCast] at h
        obtain ⟨x, hx⟩ := hp
        have hdrop : (c :: r).drop (chrL (n : Int)).length = x := by rw [← hx]; simp
        rw [hdrop] at h
        split at h
        · rename_i he
          rcases hy : scanV f x with ⟨y1, y2, y3⟩
          rw [hy] at h he
          simp only at h he
          subst he
          simp only [Prod.mk.injEq] at h
          obtain ⟨rfl, rfl, _⟩ := h
          obtain ⟨h1, h2, h3⟩ := scan_ok f x y1 y2 hy
          have h8 : (UInt8.ofNat n).toNat = n := by simp; omega
          rw [← hx, chrs_cons, h8]
          refine ⟨by simp; omega, ?_, by simp; omega⟩
          rw [List.take_length_add_append, h2, List.append_assoc]
        · rename_i he
          simp only [Prod.mk.injEq] at h
          exact absurd h.2.2 he
      · rw [e] at h
        simp at h
      · rw [e] at h
        simp at h
theorem scan_cut : ∀ (s : List UInt8) (f j : Nat), j < (chrs s).length + 1 → scanV f ((chrs s ++ [34]).take j) = ([], 0, 4)
  | _, 0, _, _ => by simp [scanV]
  | [], f + 1, j, h => by
    have : j = 0 := by simp [chrs] at h; omega
    subst this
    simp [scanV]
  | c :: s, f + 1, j, h => by
    by_cases hj : j = 0
    · subst hj
      simp [scanV]
    rw [chrs_cons, List.append_assoc]
    rw [chrs_cons, List.length_append] at h
    obtain ⟨d, t, e, hd⟩ := chr_head c.toNat c.toNat_lt
    by_cases hl : (chrL (c.toNat : Int)).length ≤ j
    · have hsplit : (chrL (c.toNat : Int) ++ (chrs s ++ [34])).take j = chrL (c.toNat : Int) ++ (chrs s ++ [34]).take (j - (chrL (c.toNat : Int)).length) := by
        rw [List.take_append, List.take_of_length_le hl]
      have hr := rd_chr c.toNat c.toNat_lt ((chrs s ++ [34]).take (j - (chrL (c.toNat : Int)).length))
      have hdrop : (chrL (c.toNat : Int) ++ (chrs s ++ [34]).take (j - (chrL (c.toNat : Int)).length)).drop (chrL (c.toNat : Int)).length = (chrs s ++ [34]).take (j - (chrL (c.toNat : Int)).length) := by simp
      have ih := scan_cut s f (j - (chrL (c.toNat : Int)).length) (by omega)
      rw [hsplit]
      generalize (chrs s ++ [34]).take (j - (chrL (c.toNat : Int)).length) = x at *
      generalize (chrL (c.toNat : Int)).length = m at *
      rw [e, List.cons_append] at hr hdrop ⊢
      rw [scanV, if_neg hd, hr]
      simp only [if_true, Int.toNat_natCast]
      rw [hdrop, ih]
      rfl
    · have hl : j < (chrL (c.toNat : Int)).length := by omega
      have hsplit : (chrL (c.toNat : Int) ++ (chrs s ++ [34])).take j = (chrL (c.toNat : Int)).take j := by
        rw [List.take_append_of_le_length (by omega)]
      have h4 := chr_le c.toNat c.toNat_lt
      have hr := rd_part ⟨c.toNat, c.toNat_lt⟩ ⟨j, by omega⟩ (by simp; omega) hl
      simp only at hr
      rw [hsplit]
      rw [e] at hr ⊢
      obtain ⟨j, rfl⟩ : ∃ i, j = i + 1 := ⟨j - 1, by omega⟩
      rw [List.take_succ_cons] at hr ⊢
      rw [scanV, if_neg hd, hr]
      rfl

theorem take_put (a s b : List UInt8) : takeV (a ++ putL s ++ b) a.length = (s, a.length + (putL s).length, 0) := by
  have h1 : ¬ ((a.length : Int) < 0 ∨ ((a ++ putL s ++ b).length : Int) < a.length) := by simp; omega
  have h2 : (a ++ putL s ++ b).drop a.length = 34 :: (chrs s ++ 34 :: b) := by simp [putL]
  have h3 : (a ++ putL s ++ b).drop (a.length + 1) = chrs s ++ 34 :: b := by
    rw [← List.drop_drop, h2]
    rfl
  rw [takeV, if_neg h1]
  simp only [Int.toNat_natCast]
  rw [h2, h3, List.head?_cons, if_pos rfl]
  have hlen : s.length ≤ (chrs s).length := by
    have key : ∀ l : List UInt8, l.length ≤ (chrs l).length := fun l => by
      induction l with
      | nil => simp
      | cons c l ih =>
        have := chr_pos c.toNat c.toNat_lt
        rw [chrs_cons, List.length_append, List.length_cons]
        omega
    exact key s
  rw [scan_put s _ b (by simp [putL]; omega)]
  simp [comb, putL]
  omega
theorem take_ok {l x : List UInt8} {n : Nat} (h : takeV l 0 = (x, n, 0)) : 2 ≤ n ∧ n ≤ l.length ∧ putL x = l.take n := by
  unfold takeV at h
  split at h
  · simp at h
  · split at h
    · rename_i hh
      match l, hh with
      | c :: r, hh =>
        have hc : c = 34 := by simpa using hh
        subst hc
        have h : comb [] 1 (scanV ((34 :: r).length + 1) r) = (x, n, 0) := h
        unfold comb at h
        split at h
        · rename_i he
          rcases hy : scanV ((34 :: r).length + 1) r with ⟨y1, y2, y3⟩
          rw [hy] at h he
          simp only at h he
          subst he
          simp only [List.nil_append, Prod.mk.injEq] at h
          obtain ⟨rfl, rfl, _⟩ := h
          obtain ⟨h1, h2, h3⟩ := scan_ok _ r y1 y2 hy
          refine ⟨by omega, by simp; omega, ?_⟩
          rw [putL, ← h2, Nat.add_comm 1 y2, List.take_succ_cons]
        · rename_i he
          simp only [Prod.mk.injEq] at h
          exact absurd h.2.2 he
    · simp at h
theorem get_cut (s : List UInt8) (k : Nat) (h0 : 1 ≤ k) (hk : k < (putL s).length) : getV ((putL s).take k) = ([], 4) := by
  have h1 : ¬ ((0 : Int) < 0 ∨ (((putL s).take k).length : Int) < 0) := by simp
  obtain ⟨k, rfl⟩ : ∃ j, k = j + 1 := ⟨k - 1, by omega⟩
  have e : (putL s).take (k + 1) = 34 :: (chrs s ++ [34]).take k := rfl
  have hk' : k < (chrs s).length + 1 := by
    have : (putL s).length = (chrs s).length + 2 := by simp [putL]
    omega
  have ht : takeV ((putL s).take (k + 1)) 0 = ([], 0, 4) := by
    rw [takeV, if_neg h1, e]
    simp only [Int.toNat_zero, List.drop_zero, List.head?_cons, if_true, Nat.zero_add, List.drop_succ_cons]
    rw [scan_cut s _ k hk']
    rfl
  unfold getV
  rw [ht]
  rfl
end Go.Proofs.YtkonmgfgnppmlaaDoor
