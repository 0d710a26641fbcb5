/- The lines of a text, as numbers: where each begins and ends; the line and the column of each place. Of no program. -/
import Derived.Lib.Bytealg
namespace Go.Proofs.Ytekpbhfbojijiaa

/-- where the lines of a text that begins at f begin and end, each without its byte 10 -/
def cutsAux : List UInt8 → Nat → List (Nat × Nat)
  | [], f => [(f, f)]
  | c :: r, f => if c = 10 then (f, f) :: cutsAux r (f + 1) else match cutsAux r (f + 1) with
    | [] => []
    | (_, b) :: t => (f, b) :: t
theorem cuts_head (l : List UInt8) : ∀ f, ∃ b t, cutsAux l f = (f, b) :: t := by
  induction l with
  | nil => exact fun f => ⟨f, [], rfl⟩
  | cons c r ih =>
    intro f
    obtain ⟨b, t, e⟩ := ih (f + 1)
    unfold cutsAux
    split
    · exact ⟨_, _, rfl⟩
    · rw [e]
      exact ⟨_, _, rfl⟩
theorem cuts_len (l : List UInt8) : ∀ f, (cutsAux l f).length = l.count 10 + 1 := by
  induction l with
  | nil => exact fun f => rfl
  | cons c r ih =>
    intro f
    obtain ⟨b, t, e⟩ := cuts_head r (f + 1)
    have h := ih (f + 1)
    unfold cutsAux
    split
    · rename_i hc
      subst hc
      simp [h]
    · rename_i hc
      rw [e] at h ⊢
      simp [hc] at h ⊢
      exact h
theorem cuts_none (l : List UInt8) : ∀ f, Lib.indexByte l 10 = -1 → cutsAux l f = [(f, f + l.length)] := by
  induction l with
  | nil => exact fun f _ => rfl
  | cons c r ih =>
    intro f h
    have hge := Lib.indexByte_ge r 10
    unfold Lib.indexByte at h
    unfold cutsAux
    by_cases hc : c = 10
    · subst hc
      simp at h
    · rw [if_neg hc]
      rw [if_neg (by simpa using hc)] at h
      by_cases hr : Lib.indexByte r 10 = -1
      · rw [ih (f + 1) hr]
        simp
        omega
      · rw [if_neg (by simpa using hr)] at h
        omega
theorem cuts_feed (r : List UInt8) (f : Nat) : cutsAux (10 :: r) f = (f, f) :: cutsAux r (f + 1) := by
  rw [cutsAux, if_pos rfl]
theorem cuts_other {c : UInt8} (hc : c ≠ 10) (r : List UInt8) (f : Nat) {x y : Nat} {t : List (Nat × Nat)} (h : cutsAux r (f + 1) = (x, y) :: t) : cutsAux (c :: r) f = (f, y) :: t := by
  rw [cutsAux, if_neg hc, h]
theorem cuts_some (l : List UInt8) : ∀ f k : Nat, Lib.indexByte l 10 = k → k < l.length ∧ cutsAux l f = (f, f + k) :: cutsAux (l.drop (k + 1)) (f + k + 1) := by
  induction l with
  | nil =>
    intro f k h
    simp [Lib.indexByte] at h
  | cons c r ih =>
    intro f k h
    have hge := Lib.indexByte_ge r 10
    unfold Lib.indexByte at h
    by_cases hc : c = 10
    · subst hc
      rw [if_pos (by simp)] at h
      obtain rfl : k = 0 := by omega
      exact ⟨by simp, cuts_feed r f⟩
    · rw [if_neg (by simpa using hc)] at h
      by_cases hr : Lib.indexByte r 10 = -1
      · rw [if_pos (by simpa using hr)] at h
        omega
      · rw [if_neg (by simpa using hr)] at h
        obtain ⟨j, hj⟩ : ∃ j : Nat, Lib.indexByte r 10 = j := ⟨(Lib.indexByte r 10).toNat, by omega⟩
        obtain ⟨h1, h2⟩ := ih (f + 1) j hj
        obtain rfl : k = j + 1 := by omega
        refine ⟨by simp; omega, ?_⟩
        rw [cuts_other hc r f h2, List.drop_succ_cons, show f + 1 + j = f + (j + 1) by omega]

/-- what is known of the k-th line, from a to b -/
structure Cut (l : List UInt8) (f k a b : Nat) : Prop where
  lo : f ≤ a
  le : a ≤ b
  hi : b ≤ f + l.length
  count : ∀ x, a ≤ x → x ≤ b → (l.take (x - f)).count 10 = k
  none : ∀ i, a ≤ i → i < b → l[i - f]? ≠ some 10
  stop : b = f + l.length ∨ l[b - f]? = some 10
  start : a = f ∨ (f < a ∧ l[a - 1 - f]? = some 10)
theorem cut_at (l : List UInt8) : ∀ f k a b, (cutsAux l f)[k]? = some (a, b) → Cut l f k a b := by
  induction l with
  | nil =>
    intro f k a b h
    simp [cutsAux] at h
    match k, h with
    | 0, h =>
      simp at h
      obtain ⟨rfl, rfl⟩ := h
      exact ⟨by omega, by omega, by simp, fun x h1 h2 => by simp, fun i h1 h2 => by omega, .inl (by simp), .inl rfl⟩
  | cons c r ih =>
    intro f k a b h
    unfold cutsAux at h
    by_cases hc : c = 10
    · subst hc
      rw [if_pos rfl] at h
      match k, h with
      | 0, h =>
        simp at h
        obtain ⟨rfl, rfl⟩ := h
        exact ⟨by omega, by omega, by simp, fun x h1 h2 => by rw [show x - f = 0 by omega]; rfl, fun i h1 h2 => by omega, .inr (by simp), .inl rfl⟩
      | k + 1, h =>
        have h : (cutsAux r (f + 1))[k]? = some (a, b) := by simpa using h
        obtain ⟨g1, g2, g3, g4, g5, g6, g7⟩ := ih _ _ _ _ h
        refine ⟨by omega, g2, by simp; omega, fun x h1 h2 => ?_, fun i h1 h2 => ?_, ?_, ?_⟩
        · have := g4 x h1 h2
          rw [show x - f = (x - (f + 1)) + 1 by omega, List.take_succ_cons, List.count_cons, this]
          simp
        · have := g5 i h1 h2
          rw [show i - f = (i - (f + 1)) + 1 by omega]
          simpa using this
        · rcases g6 with g | g
          · exact .inl (by simp; omega)
          · right
            rw [show b - f = (b - (f + 1)) + 1 by omega]
            simpa using g
        · right
          rcases g7 with g | ⟨g0, g⟩
          · subst g
            exact ⟨by omega, by rw [show f + 1 - 1 - f = 0 by omega]; rfl⟩
          · refine ⟨by omega, ?_⟩
            rw [show a - 1 - f = (a - 1 - (f + 1)) + 1 by omega]
            simpa using g
    · rw [if_neg hc] at h
      obtain ⟨b0, t, e⟩ := cuts_head r (f + 1)
      rw [e] at h
      match k, h with
      | 0, h =>
        simp at h
        obtain ⟨rfl, rfl⟩ := h
        obtain ⟨g1, g2, g3, g4, g5, g6, g7⟩ := ih (f + 1) 0 (f + 1) b0 (by rw [e]; rfl)
        refine ⟨by omega, by omega, by simp; omega, fun x h1 h2 => ?_, fun i h1 h2 => ?_, ?_, .inl rfl⟩
        · by_cases hx : x = f
          · subst hx
            rw [Nat.sub_self]
            rfl
          · have := g4 x (by omega) h2
            rw [show x - f = (x - (f + 1)) + 1 by omega, List.take_succ_cons, List.count_cons, this]
            simp [hc]
        · by_cases hx : i = f
          · subst hx
            rw [Nat.sub_self]
            simpa using hc
          · have := g5 i (by omega) h2
            rw [show i - f = (i - (f + 1)) + 1 by omega]
            simpa using this
        · rcases g6 with g | g
          · exact .inl (by simp; omega)
          · right
            rw [show b0 - f = (b0 - (f + 1)) + 1 by omega]
            simpa using g
      | k + 1, h =>
        have h : (cutsAux r (f + 1))[k + 1]? = some (a, b) := by rw [e]; simpa using h
        obtain ⟨g1, g2, g3, g4, g5, g6, g7⟩ := ih _ _ _ _ h
        have hne : a ≠ f + 1 := by
          rintro rfl
          have := g4 (f + 1) (by omega) g2
          simp at this
        refine ⟨by omega, g2, by simp; omega, fun x h1 h2 => ?_, fun i h1 h2 => ?_, ?_, ?_⟩
        · have := g4 x h1 h2
          rw [show x - f = (x - (f + 1)) + 1 by omega, List.take_succ_cons, List.count_cons, this]
          simp [hc]
        · have := g5 i h1 h2
          rw [show i - f = (i - (f + 1)) + 1 by omega]
          simpa using this
        · rcases g6 with g | g
          · exact .inl (by simp; omega)
          · right
            rw [show b - f = (b - (f + 1)) + 1 by omega]
            simpa using g
        · right
          rcases g7 with g | ⟨g0, g⟩
          · omega
          · refine ⟨by omega, ?_⟩
            rw [show a - 1 - f = (a - 1 - (f + 1)) + 1 by omega]
            simpa using g

/-- each place lies in a line -/
theorem cut_of (l : List UInt8) : ∀ f x, f ≤ x → x ≤ f + l.length → ∃ a b, (cutsAux l f)[(l.take (x - f)).count 10]? = some (a, b) ∧ a ≤ x ∧ x ≤ b := by
  induction l with
  | nil =>
    intro f x h1 h2
    exact ⟨f, f, by simp [cutsAux], h1, by simpa using h2⟩
  | cons c r ih =>
    intro f x h1 h2
    by_cases hx : x = f
    · subst hx
      obtain ⟨b, t, e⟩ := cuts_head (c :: r) x
      refine ⟨x, b, by rw [Nat.sub_self]; simp [e], by omega, ?_⟩
      exact (cut_at (c :: r) x 0 x b (by rw [e]; rfl)).le
    · obtain ⟨a, b, h3, h4, h5⟩ := ih (f + 1) x (by omega) (by simp at h2; omega)
      rw [show x - f = (x - (f + 1)) + 1 by omega, List.take_succ_cons, List.count_cons]
      unfold cutsAux
      by_cases hc : c = 10
      · subst hc
        exact ⟨a, b, by simpa using h3, h4, h5⟩
      · rw [if_neg hc]
        obtain ⟨b0, t, e⟩ := cuts_head r (f + 1)
        rw [e] at h3 ⊢
        have e0 : (if (c == 10) = true then 1 else 0) = 0 := by simp [hc]
        rw [e0, Nat.add_zero]
        generalize (r.take (x - (f + 1))).count 10 = k at h3 ⊢
        match k, h3 with
        | 0, h3 =>
          simp at h3
          obtain ⟨rfl, rfl⟩ := h3
          exact ⟨f, b0, by simp, by omega, h5⟩
        | k + 1, h3 => exact ⟨a, b, by simpa using h3, h4, h5⟩

/-- a line ends where the next one begins, less its byte 10 -/
theorem cut_next (l : List UInt8) {k a b a' b' : Nat} (h : (cutsAux l 0)[k]? = some (a, b)) (h' : (cutsAux l 0)[k + 1]? = some (a', b')) : a' = b + 1 ∧ l[b]? = some 10 := by
  have c := cut_at l 0 k a b h
  have c' := cut_at l 0 (k + 1) a' b' h'
  have hb : b < a' := by
    rcases Nat.lt_or_ge b a' with hlt | hge
    · exact hlt
    · exfalso
      by_cases haa : a ≤ a'
      · have h1 := c.count a' haa hge
        have h2 := c'.count a' (Nat.le_refl _) c'.le
        omega
      · by_cases hba : a ≤ b'
        · have h1 := c.count a (Nat.le_refl _) c.le
          have h2 := c'.count a (by omega) hba
          omega
        · have h1 := c.count a (Nat.le_refl _) c.le
          have h2 := c'.count b' c'.le (Nat.le_refl _)
          have : (l.take (b' - 0)).count 10 ≤ (l.take (a - 0)).count 10 := by
            have hp : l.take (b' - 0) = (l.take (a - 0)).take b' := by rw [List.take_take]; congr 1; omega
            rw [hp]
            exact List.Sublist.count_le _ (List.take_sublist _ _)
          omega
  have hlen : a' ≤ l.length := by have := c'.le; have := c'.hi; omega
  have hs : l[b]? = some 10 := by
    rcases c.stop with g | g
    · omega
    · simpa using g
  refine ⟨?_, hs⟩
  obtain ⟨a2, b2, h2, h3, h4⟩ := cut_of l 0 (b + 1) (by omega) (by omega)
  have hc : (l.take (b + 1 - 0)).count 10 = k + 1 := by
    have := c.count b c.le (Nat.le_refl _)
    rw [Nat.sub_zero] at this ⊢
    rw [List.take_add_one, List.count_append, this, hs]
    rfl
  rw [hc, h'] at h2
  simp at h2
  omega
theorem cut_last (l : List UInt8) {a b : Nat} (h : (cutsAux l 0)[l.count 10]? = some (a, b)) : b = l.length := by
  obtain ⟨a2, b2, h2, h3, h4⟩ := cut_of l 0 l.length (by omega) (by omega)
  rw [Nat.sub_zero, List.take_length, h] at h2
  simp at h2
  have := (cut_at l 0 _ a b h).hi
  omega

/-- the line and the column of a place -/
def lineAt (l : List UInt8) (x : Nat) : Nat := (l.take x).count 10 + 1
def begins (l : List UInt8) (x : Nat) : Nat := ((cutsAux l 0).getD (lineAt l x - 1) (0, 0)).1
def colAt (l : List UInt8) (x : Nat) : Nat := x - begins l x + 1
theorem begins_cut {l : List UInt8} {k a b x : Nat} (h : (cutsAux l 0)[k]? = some (a, b)) (h1 : a ≤ x) (h2 : x ≤ b) : lineAt l x = k + 1 ∧ begins l x = a := by
  have c := cut_at l 0 k a b h
  have e : lineAt l x = k + 1 := by have := c.count x h1 h2; simpa [lineAt] using this
  refine ⟨e, ?_⟩
  unfold begins
  rw [e, Nat.add_sub_cancel, List.getD_eq_getElem?_getD, h]
  rfl
/-- where the last line of the first x bytes begins, said without lines -/
theorem begins_of {l : List UInt8} {x b : Nat} (hx : x ≤ l.length) (hb : b ≤ x) (h0 : b = 0 ∨ l[b - 1]? = some 10) (hn : ∀ i, b ≤ i → i < x → l[i]? ≠ some 10) : begins l x = b := by
  obtain ⟨a, c, h2, h3, h4⟩ := cut_of l 0 x (by omega) (by omega)
  have e := (begins_cut h2 h3 h4).2
  have k := cut_at l 0 _ a c h2
  rw [e]
  rcases Nat.lt_trichotomy a b with hlt | heq | hgt
  · rcases h0 with g | g
    · omega
    · exact absurd (by simpa using g) (k.none (b - 1) (by omega) (by omega))
  · exact heq
  · rcases k.start with g | ⟨g0, g⟩
    · omega
    · exact absurd (by simpa using g) (hn (a - 1) (by omega) (by omega))

/-- the place of a line and a column, and whether there is one -/
def ofV (l : List UInt8) (n c : Int) : Int × Bool :=
  if 1 ≤ n then match (cutsAux l 0)[(n - 1).toNat]? with
    | some (a, b) => if 1 ≤ c ∧ c - 1 ≤ (b : Int) - a then (a + c - 1, true) else (0, false)
    | none => (0, false)
  else (0, false)
theorem ofV_at {l : List UInt8} {x : Nat} (hx : x ≤ l.length) : ofV l (lineAt l x) (colAt l x) = ((x : Int), true) := by
  obtain ⟨a, b, h2, h3, h4⟩ := cut_of l 0 x (by omega) (by omega)
  obtain ⟨e1, e2⟩ := begins_cut h2 h3 h4
  unfold ofV
  rw [if_pos (by unfold lineAt; omega)]
  have e : (((lineAt l x : Nat) : Int) - 1).toNat = (l.take (x - 0)).count 10 := by rw [e1]; omega
  rw [e, h2]
  simp only [colAt, e2]
  rw [if_pos (by omega)]
  congr 1
  omega
theorem ofV_none {l : List UInt8} {n c : Int} (h : ∀ x : Nat, x ≤ l.length → ¬ ((lineAt l x : Int) = n ∧ (colAt l x : Int) = c)) : ofV l n c = (0, false) := by
  unfold ofV
  split
  · rename_i hn
    split
    · rename_i a b hab
      split
      · rename_i hc
        exfalso
        have k := cut_at l 0 _ a b hab
        have hh := k.hi
        obtain ⟨e1, e2⟩ := begins_cut (x := (a + c - 1).toNat) hab (by omega) (by omega)
        refine h (a + c - 1).toNat (by omega) ⟨by rw [e1]; omega, ?_⟩
        unfold colAt
        rw [e2]
        omega
      · rfl
    · rfl
  · rfl
theorem ofV_eq {l : List UInt8} {x : Nat} {n c : Int} (hx : x ≤ l.length) (h : (lineAt l x : Int) = n ∧ (colAt l x : Int) = c) : ofV l n c = ((x : Int), true) := by
  rw [← h.1, ← h.2]
  exact ofV_at hx

/-- the text of a line, from where to where, and whether there is one -/
def lineV (l : List UInt8) (n : Int) : (Nat × Nat) × Bool :=
  if 1 ≤ n then match (cutsAux l 0)[(n - 1).toNat]? with
    | some p => (p, true)
    | none => ((0, 0), false)
  else ((0, 0), false)
theorem lineV_none {l : List UInt8} {n : Int} (h : n < 1 ∨ (l.count 10 : Int) + 1 < n) : lineV l n = ((0, 0), false) := by
  unfold lineV
  split
  · rw [List.getElem?_eq_none (by rw [cuts_len]; omega)]
  · rfl
theorem lineV_some {l : List UInt8} {n : Int} (h1 : 1 ≤ n) (h2 : n ≤ (l.count 10 : Int) + 1) : ∃ a b, (cutsAux l 0)[(n - 1).toNat]? = some (a, b) ∧ lineV l n = ((a, b), true) ∧ a ≤ b ∧ b ≤ l.length ∧ ofV l n 1 = ((a : Int), true) := by
  have hlt : (n - 1).toNat < (cutsAux l 0).length := by rw [cuts_len]; omega
  obtain ⟨⟨a, b⟩, e⟩ : ∃ p, (cutsAux l 0)[(n - 1).toNat]? = some p := ⟨_, List.getElem?_eq_getElem hlt⟩
  have k := cut_at l 0 _ a b e
  refine ⟨a, b, e, ?_, k.le, by have := k.hi; omega, ?_⟩
  · unfold lineV
    rw [if_pos h1, e]
  · unfold ofV
    rw [if_pos h1, e]
    have := k.le
    simp
    omega
theorem lineV_le (l : List UInt8) (n : Int) : (lineV l n).1.1 ≤ (lineV l n).1.2 ∧ (lineV l n).1.2 ≤ l.length := by
  by_cases h : 1 ≤ n ∧ n ≤ (l.count 10 : Int) + 1
  · obtain ⟨a, b, _, e, h1, h2, _⟩ := lineV_some h.1 h.2
    rw [e]
    exact ⟨h1, h2⟩
  · rw [lineV_none (by omega)]
    exact ⟨Nat.le_refl _, Nat.zero_le _⟩
end Go.Proofs.Ytekpbhfbojijiaa
