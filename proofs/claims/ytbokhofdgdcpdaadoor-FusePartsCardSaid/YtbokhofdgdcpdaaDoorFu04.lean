/- FaMat, SetOps, SetLoops, put together. -/
import Derived.Test.YtbokhofdgdcpdaaDoorFu03
import Derived.Test.YtbokhofdgdcpdaaDoorFu01
import Derived.Handy
/- Which place of a word leads to which, as tables: the reference's way, and the words that are matched. Of no program. -/
namespace Go.Proofs.YtbokhofdgdcpdaaDoor

def mBoth (A B : Nat → Nat → Bool) (p q : Nat) : Bool := A p q || B p q
def mBehind (N : Nat) (A B : Nat → Nat → Bool) (p q : Nat) : Bool := (List.range N).any fun k => decide (p ≤ k) && (decide (k ≤ q) && (A p k && B k q))
def mSame (p q : Nat) : Bool := decide (p = q)
def mSet (f : Nat → Bool) (W : List Nat) (p q : Nat) : Bool := decide (p < W.length) && (decide (q = p + 1) && f (W.getD p 0))
def mAgain (N : Nat) (A : Nat → Nat → Bool) : Nat → Nat → Nat → Bool
  | 0 => A
  | t + 1 => mBoth (mAgain N A t) (mBehind N (mAgain N A t) (mAgain N A t))
/-- the same at all places of a word -/
def Alike (N : Nat) (A B : Nat → Nat → Bool) : Prop := ∀ p q, p < N → q < N → A p q = B p q
theorem Alike.refl (N : Nat) (A : Nat → Nat → Bool) : Alike N A A := fun _ _ _ _ => rfl
theorem Alike.trans {N : Nat} {A B C : Nat → Nat → Bool} (h : Alike N A B) (k : Alike N B C) : Alike N A C := fun p q hp hq => (h p q hp hq).trans (k p q hp hq)
theorem Alike.both {N : Nat} {A B A' B' : Nat → Nat → Bool} (h : Alike N A A') (k : Alike N B B') : Alike N (mBoth A B) (mBoth A' B') := fun p q hp hq => by
  simp only [mBoth, h p q hp hq, k p q hp hq]
theorem any_congr {α : Type} {l : List α} {f g : α → Bool} (h : ∀ x ∈ l, f x = g x) : l.any f = l.any g := by
  induction l with
  | nil => rfl
  | cons x r ih => rw [List.any_cons, List.any_cons, h x (by simp), ih fun y hy => h y (by simp [hy])]
theorem Alike.behind {N : Nat} {A B A' B' : Nat → Nat → Bool} (h : Alike N A A') (k : Alike N B B') : Alike N (mBehind N A B) (mBehind N A' B') := fun p q hp hq => by
  unfold mBehind
  refine any_congr fun x hx => ?_
  have hx' := List.mem_range.1 hx
  rw [h p x hp hx', k x q hx' hq]
theorem Alike.again {N : Nat} {A A' : Nat → Nat → Bool} (h : Alike N A A') : ∀ t, Alike N (mAgain N A t) (mAgain N A' t)
  | 0 => h
  | t + 1 => ((Alike.again h t).both ((Alike.again h t).behind (Alike.again h t)))

theorem sub_len {W : List Nat} {p q : Nat} (h : q ≤ W.length) : (sub W p q).length = q - p := by
  unfold sub
  simp
  omega
theorem sub_split {W : List Nat} {p k q : Nat} (h1 : p ≤ k) (h2 : k ≤ q) : sub W p q = sub W p k ++ sub W k q := by
  unfold sub
  have e : W.take q = W.take k ++ (W.take q).drop k := by
    have := (List.take_append_drop k (W.take q)).symm
    rwa [List.take_take, Nat.min_eq_left h2] at this
  rcases Nat.lt_or_ge W.length k with h | h
  · have e2 : (W.take q).drop k = [] := by
      rw [List.drop_eq_nil_iff]
      simp
      omega
    rw [e2, List.append_nil, List.take_of_length_le (by omega : W.length ≤ q), List.take_of_length_le (by omega : W.length ≤ k)]
  · conv => lhs; rw [e]
    rw [List.drop_append_of_le_length (by simp; omega)]
theorem sub_parts {W : List Nat} {p q : Nat} (hp : p ≤ q) (hq : q ≤ W.length) {x y : List Nat} (h : sub W p q = x ++ y) : p + x.length ≤ q ∧ x = sub W p (p + x.length) ∧ y = sub W (p + x.length) q := by
  have hl := congrArg List.length h
  rw [sub_len hq, List.length_append] at hl
  have h1 : p + x.length ≤ q := by omega
  have h2 := sub_split (W := W) (p := p) (k := p + x.length) (q := q) (by omega) h1
  rw [h] at h2
  have h3 := List.append_inj h2 (by rw [sub_len (by omega)]; omega)
  exact ⟨h1, h3.1, h3.2⟩
theorem sub_one {W : List Nat} {p : Nat} (h : p < W.length) : sub W p (p + 1) = [W.getD p 0] := by
  have e := sub_more W p 0
  rw [Nat.add_zero] at e
  rw [e, List.drop_eq_getElem_cons h, List.getD_eq_getElem?_getD, List.getElem?_eq_getElem h]
  rfl

theorem mat_set (f : Nat → Bool) {W : List Nat} (hW : ∀ c ∈ W, c < 256) : Alike (W.length + 1) (mSet f W) (lgB (.set f) W) := fun p q hp hq => by
  rw [Bool.eq_iff_iff, lgB_iff]
  simp only [mSet, Bool.and_eq_true, decide_eq_true_eq]
  constructor
  · rintro ⟨h1, rfl, h3⟩
    refine ⟨by omega, by omega, W.getD p 0, sub_one h1, hW _ ?_, h3⟩
    rw [List.getD_eq_getElem?_getD, List.getElem?_eq_getElem h1]
    exact List.getElem_mem h1
  · rintro ⟨h1, h2, c, h3, _, h5⟩
    have hl := congrArg List.length h3
    rw [sub_len h2] at hl
    simp only [List.length_cons, List.length_nil] at hl
    obtain rfl : q = p + 1 := by omega
    rw [sub_one (by omega)] at h3
    cases h3
    exact ⟨by omega, rfl, h5⟩
theorem mat_emp (W : List Nat) : Alike (W.length + 1) mSame (lgB .emp W) := fun p q hp hq => by
  rw [Bool.eq_iff_iff, lgB_iff]
  simp only [mSame, decide_eq_true_eq, Lang]
  constructor
  · rintro rfl
    exact ⟨Nat.le_refl _, by omega, sub_self W p⟩
  · rintro ⟨h1, h2, h3⟩
    have hl := congrArg List.length h3
    rw [sub_len h2] at hl
    simp only [List.length_nil] at hl
    omega
theorem mat_cat (a b : Ex) (W : List Nat) : Alike (W.length + 1) (mBehind (W.length + 1) (lgB a W) (lgB b W)) (lgB (.cat a b) W) := fun p q hp hq => by
  rw [Bool.eq_iff_iff, lgB_iff]
  simp only [mBehind, List.any_eq_true, List.mem_range, Bool.and_eq_true, decide_eq_true_eq, lgB_iff, Lang]
  constructor
  · rintro ⟨k, hk, h1, h2, ⟨_, h4, h5⟩, _, h7, h8⟩
    exact ⟨by omega, h7, _, _, sub_split h1 h2, h5, h8⟩
  · rintro ⟨h1, h2, x, y, h3, h4, h5⟩
    obtain ⟨g1, g2, g3⟩ := sub_parts h1 h2 h3
    rw [g2] at h4
    rw [g3] at h5
    exact ⟨p + x.length, by omega, by omega, g1, ⟨by omega, by omega, h4⟩, g1, h2, h5⟩
theorem mat_alt (a b : Ex) (W : List Nat) : Alike (W.length + 1) (mBoth (lgB a W) (lgB b W)) (lgB (.alt a b) W) := fun p q hp hq => by
  rw [Bool.eq_iff_iff, lgB_iff]
  simp only [mBoth, Bool.or_eq_true, lgB_iff, Lang]
  constructor
  · rintro (⟨h1, h2, h3⟩ | ⟨h1, h2, h3⟩)
    · exact ⟨h1, h2, .inl h3⟩
    · exact ⟨h1, h2, .inr h3⟩
  · rintro ⟨h1, h2, h3 | h3⟩
    · exact .inl ⟨h1, h2, h3⟩
    · exact .inr ⟨h1, h2, h3⟩
/-- put together of some of the words -/
theorem many_words {P : List Nat → Prop} {u : List Nat} (h : Many P u) : ∃ ws : List (List Nat), 1 ≤ ws.length ∧ (∀ w ∈ ws, P w) ∧ u = ws.flatten := by
  induction h with
  | @one u h => exact ⟨[u], by simp, by simpa using h, by simp⟩
  | @more u v h t ih =>
    obtain ⟨ws, h1, h2, rfl⟩ := ih
    exact ⟨u :: ws, by simp, by simpa using ⟨h, h2⟩, by simp⟩
theorem words_many {P : List Nat → Prop} : ∀ ws : List (List Nat), 1 ≤ ws.length → (∀ w ∈ ws, P w) → Many P ws.flatten
  | [], h, _ => by simp at h
  | [u], _, h => by simpa using Many.one (h u (by simp))
  | u :: v :: r, _, h => by
    rw [List.flatten_cons]
    exact .more (h u (by simp)) (words_many (v :: r) (by simp) fun w hw => h w (by simp [hw]))
/-- no more words than bytes, but for one -/
theorem few_words {P : List Nat → Prop} {u : List Nat} (h : Many P u) : ∃ ws : List (List Nat), 1 ≤ ws.length ∧ ws.length ≤ u.length + 1 ∧ (∀ w ∈ ws, P w) ∧ u = ws.flatten := by
  obtain ⟨ws, h1, h2, h3⟩ := many_words h
  by_cases hu : u = []
  · subst hu
    cases ws with
    | nil => simp at h1
    | cons w r =>
      have hw : w = [] := by
        rw [List.flatten_cons] at h3
        exact (List.append_eq_nil_iff.1 h3.symm).1
      exact ⟨[w], by simp, by simp, by simpa using h2 w (by simp), by simp [hw]⟩
  · have key : ∀ l : List (List Nat), (∀ w ∈ l, P w) → ∃ l' : List (List Nat), l'.length ≤ l.flatten.length ∧ (∀ w ∈ l', P w) ∧ l'.flatten = l.flatten := by
      intro l
      induction l with
      | nil => exact fun _ => ⟨[], by simp, by simp, rfl⟩
      | cons w r ih =>
        intro hl
        obtain ⟨l', g1, g2, g3⟩ := ih fun x hx => hl x (by simp [hx])
        by_cases hw : w = []
        · subst hw
          exact ⟨l', by simpa using g1, g2, by simpa using g3⟩
        · refine ⟨w :: l', ?_, ?_, by simp [g3]⟩
          · have : 1 ≤ w.length := by cases w <;> simp_all
            simp only [List.length_cons, List.flatten_cons, List.length_append]
            omega
          · intro x hx
            rcases List.mem_cons.1 hx with rfl | hx
            · exact hl x (by simp)
            · exact g2 x hx
    obtain ⟨l', g1, g2, g3⟩ := key ws h2
    rw [← h3] at g1 g3
    refine ⟨l', ?_, by omega, g2, g3.symm⟩
    cases l' with
    | nil =>
      simp at g3
      exact absurd g3.symm (by simpa using hu)
    | cons => simp
theorem many_append {P : List Nat → Prop} {u v : List Nat} (h : Many P u) (k : Many P v) : Many P (u ++ v) := by
  induction h with
  | one h => exact .more h k
  | more h t ih => rw [List.append_assoc]; exact .more h ih
theorem again_sound {a : Ex} {W : List Nat} : ∀ t p q, p < W.length + 1 → q < W.length + 1 → mAgain (W.length + 1) (lgB a W) t p q = true → p ≤ q ∧ Many (Lang a) (sub W p q)
  | 0, p, q, _, _, h => by
    obtain ⟨h1, _, h3⟩ := lgB_iff.1 h
    exact ⟨h1, .one h3⟩
  | t + 1, p, q, hp, hq, h => by
    simp only [mAgain, mBoth, Bool.or_eq_true] at h
    rcases h with h | h
    · exact again_sound t p q hp hq h
    · simp only [mBehind, List.any_eq_true, List.mem_range, Bool.and_eq_true, decide_eq_true_eq] at h
      obtain ⟨k, hk, h1, h2, h3, h4⟩ := h
      rw [sub_split h1 h2]
      exact ⟨by omega, many_append (again_sound t p k hp hk h3).2 (again_sound t k q hk hq h4).2⟩
theorem again_full {a : Ex} {W : List Nat} : ∀ t p q, p ≤ q → q < W.length + 1 → ∀ ws : List (List Nat), 1 ≤ ws.length → ws.length ≤ 2 ^ t → (∀ w ∈ ws, Lang a w) → sub W p q = ws.flatten → mAgain (W.length + 1) (lgB a W) t p q = true
  | 0, p, q, hp, hq, ws, h1, h2, h3, h4 => by
    match ws, h1, h2 with
    | [w], _, _ =>
      simp only [List.flatten_cons, List.flatten_nil, List.append_nil] at h4
      exact lgB_iff.2 ⟨hp, by omega, by rw [h4]; exact h3 w (by simp)⟩
    | _ :: _ :: _, _, h2 => simp at h2
  | t + 1, p, q, hp, hq, ws, h1, h2, h3, h4 => by
    simp only [mAgain, mBoth, Bool.or_eq_true]
    by_cases hs : ws.length ≤ 2 ^ t
    · exact .inl (again_full t p q hp hq ws h1 hs h3 h4)
    · refine .inr ?_
      have hpow : 2 ^ (t + 1) = 2 * 2 ^ t := by rw [Nat.pow_succ]; omega
      have hpos : 1 ≤ 2 ^ t := Nat.one_le_two_pow
      have e : ws = ws.take (2 ^ t) ++ ws.drop (2 ^ t) := (List.take_append_drop _ _).symm
      rw [e, List.flatten_append] at h4
      obtain ⟨g1, g2, g3⟩ := sub_parts hp (by omega) h4
      simp only [mBehind, List.any_eq_true, List.mem_range, Bool.and_eq_true, decide_eq_true_eq]
      refine ⟨p + (ws.take (2 ^ t)).flatten.length, by omega, by omega, g1, ?_, ?_⟩
      · exact again_full t _ _ (by omega) (by omega) (ws.take (2 ^ t)) (by simp; omega) (by simp; omega) (fun w hw => h3 w (List.mem_of_mem_take hw)) g2.symm
      · exact again_full t _ _ g1 hq (ws.drop (2 ^ t)) (by simp; omega) (by simp; omega) (fun w hw => h3 w (List.mem_of_mem_drop hw)) g3.symm
theorem again_iff {a : Ex} {W : List Nat} {t : Nat} (ht : W.length + 1 < 2 ^ t) {p q : Nat} (hp : p < W.length + 1) (hq : q < W.length + 1) : mAgain (W.length + 1) (lgB a W) t p q = true ↔ p ≤ q ∧ Many (Lang a) (sub W p q) := by
  refine ⟨again_sound t p q hp hq, fun ⟨h1, h2⟩ => ?_⟩
  obtain ⟨ws, g1, g2, g3, g4⟩ := few_words h2
  rw [sub_len (by omega)] at g2
  exact again_full t p q h1 hq ws g1 (by omega) g3 g4
theorem mat_plus (a : Ex) {W : List Nat} {t : Nat} (ht : W.length + 1 < 2 ^ t) : Alike (W.length + 1) (mAgain (W.length + 1) (lgB a W) t) (lgB (.un 6 a) W) := fun p q hp hq => by
  rw [Bool.eq_iff_iff, again_iff ht hp hq, lgB_iff]
  simp only [Lang, Int.reduceEq, if_false, if_true]
  exact ⟨fun h => ⟨h.1, by omega, h.2⟩, fun h => ⟨h.1, h.2.2⟩⟩
theorem mat_star (a : Ex) {W : List Nat} {t : Nat} (ht : W.length + 1 < 2 ^ t) : Alike (W.length + 1) (mBoth mSame (mAgain (W.length + 1) (lgB a W) t)) (lgB (.un 5 a) W) := fun p q hp hq => by
  rw [Bool.eq_iff_iff, lgB_iff]
  simp only [mBoth, Bool.or_eq_true, again_iff ht hp hq, mSame, decide_eq_true_eq, Lang, if_true]
  constructor
  · rintro (rfl | ⟨h1, h2⟩)
    · exact ⟨Nat.le_refl _, by omega, .inl (sub_self W p)⟩
    · exact ⟨h1, by omega, .inr h2⟩
  · rintro ⟨h1, h2, h3 | h3⟩
    · have hl := congrArg List.length h3
      rw [sub_len h2] at hl
      simp only [List.length_nil] at hl
      exact .inl (by omega)
    · exact .inr ⟨h1, h3⟩
theorem mat_opt (a : Ex) (W : List Nat) : Alike (W.length + 1) (mBoth mSame (lgB a W)) (lgB (.un 7 a) W) := fun p q hp hq => by
  rw [Bool.eq_iff_iff, lgB_iff]
  simp only [mBoth, Bool.or_eq_true, lgB_iff, mSame, decide_eq_true_eq, Lang, Int.reduceEq, if_false]
  constructor
  · rintro (rfl | ⟨h1, h2, h3⟩)
    · exact ⟨Nat.le_refl _, by omega, .inl (sub_self W p)⟩
    · exact ⟨h1, h2, .inr h3⟩
  · rintro ⟨h1, h2, h3 | h3⟩
    · have hl := congrArg List.length h3
      rw [sub_len h2] at hl
      simp only [List.length_nil] at hl
      exact .inl (by omega)
    · exact .inr ⟨h1, h2, h3⟩
end Go.Proofs.YtbokhofdgdcpdaaDoor

/- Contracts of the set functions without a search: Has, One, with, And, Minus, Not. -/
namespace Go.Proofs.YtbokhofdgdcpdaaDoor
open Go.RowKit

theorem has_res (f : Nat → Bool) (n : Int) (h0 : 0 ≤ n) : ((word f (n / 64).toNat : Int) / 2 ^ (n % 64).toNat % 2 == 1) = f n.toNat := by
  obtain ⟨k, rfl⟩ := Int.eq_ofNat_of_zero_le h0
  have e1 : ((k : Int) / 64).toNat = k / 64 := by omega
  have e2 : ((k : Int) % 64).toNat = k % 64 := by omega
  rw [e1, e2, word_has f _ _ (Nat.mod_lt _ (by decide)), Nat.div_add_mod, Int.toNat_natCast]
  cases f k <;> rfl
theorem has_res1 (f : Nat → Bool) (n : Int) (h0 : 0 ≤ n) : (bits .and .u64 ((word f (n / 64).toNat : Int) / 2 ^ (n % 64).toNat) 1 == 1) = f n.toNat := by
  rw [← has_res f n h0]
  have hw := word_lt f (n / 64).toNat
  generalize word f (n / 64).toNat = x at *
  have e : (x : Int) / 2 ^ (n % 64).toNat = ((x / 2 ^ (n % 64).toNat : Nat) : Int) := by simp
  have hle : x / 2 ^ (n % 64).toNat ≤ x := Nat.div_le_self _ _
  rw [e, show (1 : Int) = ((1 : Nat) : Int) from rfl, u64_and_nat _ _ (by omega) (by decide), Nat.and_one_is_mod]
  simp
theorem has_res2 (f : Nat → Bool) (n : Int) (h0 : 0 ≤ n) : (((word f (n / 64).toNat : Int) / 2 ^ (n % 64).toNat).tmod 2 == 1) = f n.toNat := by
  rw [← has_res f n h0]
  have e : (word f (n / 64).toNat : Int) / 2 ^ (n % 64).toNat = ((word f (n / 64).toNat / 2 ^ (n % 64).toNat : Nat) : Int) := by simp
  rw [e, Int.tmod_eq_emod_of_nonneg (Int.natCast_nonneg _)]

theorem rhas_calls (f : Nat → Bool) (n : Int) (w : World) (h0 : 0 ≤ n) (h1 : n < 256) :
    Calls Tryd.prog 23 #[(.agg #[.int .u64 (word (f) 0), .int .u64 (word (f) 1), .int .u64 (word (f) 2), .int .u64 (word (f) 3)]), .int .u8 n] w fun e w' => e = .returned (.bool (f n.toNat)) ∧ Below w.heap.size w w' := by
  have hx := at4 (word f) (n / 64).toNat (by omega)
  go_enter Tryd.func23, Tryd.ntmps23
  go_wp2
  go_ret
  exact ⟨ret_b (has_res2 f n h0), (Below.refl _ _).alloc (Nat.le_refl _) _⟩

/-- a set as it is returned, out of its four words -/
theorem ret_set {a b c d : Int} {f : Nat → Bool} (ha : a = word f 0) (hb : b = word f 1) (hc : c = word f 2) (hd : d = word f 3) :
    Ending.returned (.agg #[.int .u64 a, .int .u64 b, .int .u64 c, .int .u64 d]) = .returned (.agg #[.int .u64 (word (f) 0), .int .u64 (word (f) 1), .int .u64 (word (f) 2), .int .u64 (word (f) 3)]) := by
  rw [ha, hb, hc, hd]

theorem or_other (f : Nat → Bool) (n i : Nat) (h : n / 64 ≠ i) : word f i = word (fOr f (fOne n)) i :=
  word_congr i fun j hj => by
    simp only [fOr, fOne]
    have : decide (64 * i + j = n) = false := by simp; omega
    rw [this, Bool.or_false]

theorem with_calls (f : Nat → Bool) (n : Int) (w : World) (h0 : 0 ≤ n) (h1 : n < 256) :
    Calls Tryd.prog 114 #[(.agg #[.int .u64 (word (f) 0), .int .u64 (word (f) 1), .int .u64 (word (f) 2), .int .u64 (word (f) 3)]), .int .i64 n] w fun e w' => e = .returned (.agg #[.int .u64 (word (fOr f (fOne n.toNat)) 0), .int .u64 (word (fOr f (fOne n.toNat)) 1), .int .u64 (word (fOr f (fOne n.toNat)) 2), .int .u64 (word (fOr f (fOne n.toNat)) 3)]) ∧ Below w.heap.size w w' := by
  have HB := hidden (pow_bit n h0)
  have HO := hidden (or_other f n.toNat)
  have HW := hidden (word_or f (fOne n.toNat))
  have hc : (n / 64).toNat = 0 ∨ (n / 64).toNat = 1 ∨ (n / 64).toNat = 2 ∨ (n / 64).toNat = 3 := by omega
  rcases hc with hq | hq | hq | hq
  all_goals
    go_enter Tryd.func114, Tryd.ntmps114
    go_wp2
    go_returns
    refine ⟨ret_set ?_ ?_ ?_ ?_, by go_grown⟩
  all_goals first | (rw [← HO.out _ (by omega)]; done) | exact congrArg _ (HO.out _ (by omega)) | (rw [HB.out _ (show n.toNat / 64 = 0 by omega)]; exact HW.out _) | (rw [HB.out _ (show n.toNat / 64 = 1 by omega)]; exact HW.out _) | (rw [HB.out _ (show n.toNat / 64 = 2 by omega)]; exact HW.out _) | (rw [HB.out _ (show n.toNat / 64 = 3 by omega)]; exact HW.out _)

end Go.Proofs.YtbokhofdgdcpdaaDoor

/- Contracts of the set functions that go over all bytes, or over a list of sets. -/
namespace Go.Proofs.YtbokhofdgdcpdaaDoor
open Go.RowKit

/-- block B is an array of four words, with f in it -/
def SetAt (w : World) (B : Nat) (f : Nat → Bool) : Prop := w.heap[B]? = some (.cells #[.int .u64 (word (f) 0), .int .u64 (word (f) 1), .int .u64 (word (f) 2), .int .u64 (word (f) 3)] 28 (0, 0))
theorem SetAt.facts {w : World} {B : Nat} {f : Nat → Bool} (h : SetAt w B f) :
    w.cell? ⟨B, 0, none⟩ = some (.int .u64 (word f 0)) ∧ w.cell? ⟨B, 1, none⟩ = some (.int .u64 (word f 1)) ∧ w.cell? ⟨B, 2, none⟩ = some (.int .u64 (word f 2)) ∧ w.cell? ⟨B, 3, none⟩ = some (.int .u64 (word f 3)) ∧
    w.frozen? ⟨B, 0, none⟩ = false ∧ w.frozen? ⟨B, 1, none⟩ = false ∧ w.frozen? ⟨B, 2, none⟩ = false ∧ w.frozen? ⟨B, 3, none⟩ = false :=
  ⟨cell_of_row w B 0 _ _ _ h, cell_of_row w B 1 _ _ _ h, cell_of_row w B 2 _ _ _ h, cell_of_row w B 3 _ _ _ h,
    frozen_of_row w B 0 _ _ h, frozen_of_row w B 1 _ _ h, frozen_of_row w B 2 _ _ h, frozen_of_row w B 3 _ _ h⟩
theorem SetAt.lt {w : World} {B : Nat} {f : Nat → Bool} (h : SetAt w B f) : B < w.heap.size := by
  rcases Nat.lt_or_ge B w.heap.size with hlt | hge
  · exact hlt
  · unfold SetAt at h
    rw [Array.getElem?_eq_none hge] at h
    cases h
theorem SetAt.below {w w' : World} {B : Nat} {f : Nat → Bool} (h : SetAt w B f) (hb : Below w.heap.size w w') : SetAt w' B f :=
  (hb.block B h.lt).trans h
theorem SetAt.new (w : World) (f : Nat → Bool) : SetAt (w.alloc (.cells #[.int .u64 (word (f) 0), .int .u64 (word (f) 1), .int .u64 (word (f) 2), .int .u64 (word (f) 3)] 28)) w.heap.size f := heap_alloc_new w _
theorem SetAt.stored {w : World} {B : Nat} {f g : Nat → Bool} (h : SetAt w B f) :
    SetAt ((((w.setCell ⟨B, 0, none⟩ (.int .u64 (word g 0))).setCell ⟨B, 1, none⟩ (.int .u64 (word g 1))).setCell ⟨B, 2, none⟩ (.int .u64 (word g 2))).setCell ⟨B, 3, none⟩ (.int .u64 (word g 3))) B g :=
  heap_setCell_same _ B 3 _ _ _ (heap_setCell_same _ B 2 _ _ _ (heap_setCell_same _ B 1 _ _ _ (heap_setCell_same _ B 0 _ _ _ h)))
theorem SetAt.congr {w : World} {B : Nat} {f g : Nat → Bool} (h : SetAt w B f) (e : ∀ n, n < 256 → f n = g n) : SetAt w B g := by
  unfold SetAt at h ⊢
  rw [h, word_ext e 0 (by decide), word_ext e 1 (by decide), word_ext e 2 (by decide), word_ext e 3 (by decide)]

theorem below_cells {B : Nat} {a w : World} (h : Below B a w) (b : Nat) (hb : B ≤ b) (v0 v1 v2 v3 : Value) :
    Below B a ((((w.setCell ⟨b, 0, none⟩ v0).setCell ⟨b, 1, none⟩ v1).setCell ⟨b, 2, none⟩ v2).setCell ⟨b, 3, none⟩ v3) :=
  (((h.setCell hb _).setCell hb _).setCell hb _).setCell hb _
theorem set_other {w : World} {B b : Nat} {f : Nat → Bool} (h : SetAt w B f) (hne : B ≠ b) (v0 v1 v2 v3 : Value) :
    SetAt ((((w.setCell ⟨b, 0, none⟩ v0).setCell ⟨b, 1, none⟩ v1).setCell ⟨b, 2, none⟩ v2).setCell ⟨b, 3, none⟩ v3) B f := by
  unfold SetAt at h ⊢
  rw [heap_setCell_other _ _ _ _ hne, heap_setCell_other _ _ _ _ hne, heap_setCell_other _ _ _ _ hne, heap_setCell_other _ _ _ _ hne, h]

theorem span_step (lo hi : Int) (k : Nat) (h : lo ≤ k ∧ (k : Int) ≤ hi) (n : Nat) : fOr (fUpto (fSpan lo hi) k) (fOne k) n = fUpto (fSpan lo hi) (k + 1) n := by
  simp only [fOr, fUpto, fSpan, fOne]
  rw [Bool.eq_iff_iff]
  simp
  omega
theorem span_skip (lo hi : Int) (k : Nat) (h : ¬ (lo ≤ k ∧ (k : Int) ≤ hi)) (n : Nat) : fUpto (fSpan lo hi) k n = fUpto (fSpan lo hi) (k + 1) n := by
  simp only [fUpto, fSpan]
  rw [Bool.eq_iff_iff]
  simp
  omega
theorem upto_all (f : Nat → Bool) (n : Nat) (h : n < 256) : fUpto f 256 n = f n := by simp [fUpto, h]
theorem upto_none (f : Nat → Bool) (n : Nat) : fUpto f 0 n = fNone n := by simp [fUpto, fNone]

theorem with_nat (f : Nat → Bool) (k : Nat) (w : World) (h : k < 256) :
    Calls Tryd.prog 114 #[(.agg #[.int .u64 (word (f) 0), .int .u64 (word (f) 1), .int .u64 (word (f) 2), .int .u64 (word (f) 3)]), .int .i64 k] w fun e w' => e = .returned (.agg #[.int .u64 (word (fOr f (fOne k)) 0), .int .u64 (word (fOr f (fOne k)) 1), .int .u64 (word (fOr f (fOne k)) 2), .int .u64 (word (fOr f (fOne k)) 3)]) ∧ Below w.heap.size w w' := by
  have := with_calls f k w (by omega) (by omega)
  rwa [Int.toNat_natCast] at this
theorem zeros (f : Nat → Bool) (hf : ∀ i, word f i = 0) : (#[.int .u64 0, .int .u64 0, .int .u64 0, .int .u64 0] : Array Value) = #[.int .u64 (word (f) 0), .int .u64 (word (f) 1), .int .u64 (word (f) 2), .int .u64 (word (f) 3)] := by
  simp [hf]
theorem zeros_none : (#[.int .u64 0, .int .u64 0, .int .u64 0, .int .u64 0] : Array Value) = #[.int .u64 (word (fNone) 0), .int .u64 (word (fNone) 1), .int .u64 (word (fNone) 2), .int .u64 (word (fNone) 3)] := zeros _ word_none
theorem new2 (w : World) : SetAt ((w.alloc (.cells #[.int .u64 0, .int .u64 0, .int .u64 0, .int .u64 0] 28)).alloc (.cells #[.int .u64 0, .int .u64 0, .int .u64 0, .int .u64 0] 28)) w.heap.size fNone ∧
    SetAt ((w.alloc (.cells #[.int .u64 0, .int .u64 0, .int .u64 0, .int .u64 0] 28)).alloc (.cells #[.int .u64 0, .int .u64 0, .int .u64 0, .int .u64 0] 28)) (w.heap.size + 1) fNone := by
  rw [zeros_none]
  exact ⟨heap_alloc2_old w _ _, heap_alloc2_new w _ _⟩

theorem ret_setAt {fn : Func} {R : Ending → World → Prop} {a : Act} {w : World} {B p : Nat} {f g : Nat → Bool} (h : fn.results = #[.cell p 28]) (hp : a.tmps.getD p undef = .pointer (some ⟨B, 0, none⟩))
    (hd : a.defers = []) (hS : SetAt w B f) (e : ∀ n, n < 256 → f n = g n) (hR : R (.returned (.agg #[.int .u64 (word (g) 0), .int .u64 (word (g) 1), .int .u64 (word (g) 2), .int .u64 (word (g) 3)])) w) : bodyPost Tryd.prog fn R .ret a w :=
  bodyPost_ret (results_cell_row h _ w B 28 _ (0, 0) _ hp (hS.congr e) Tryd.underlying28 rfl (by kernel_rfl)) hd hR

set_option maxRecDepth 100000 in
theorem rspan_calls (lo hi : Int) (w : World) :
    Calls Tryd.prog 113 #[.int .i64 lo, .int .i64 hi] w fun e w' => e = .returned (.agg #[.int .u64 (word (fSpan lo hi) 0), .int .u64 (word (fSpan lo hi) 1), .int .u64 (word (fSpan lo hi) 2), .int .u64 (word (fSpan lo hi) 3)]) ∧ Below w.heap.size w w' := by
  go_enter Tryd.func113, Tryd.ntmps113
  go_wp2
  go_loopw [6] (fun i wr => ∃ k : Nat, k ≤ 256 ∧ i = .int .i64 k ∧ SetAt wr w.heap.size fNone ∧ SetAt wr (w.heap.size + 1) (fUpto (fSpan lo hi) k) ∧ Below w.heap.size w wr) (fun i _ => 256 - (intOf i).toNat)
  case atStart =>
    exact ⟨0, by omega, rfl, (new2 w).1, (new2 w).2.congr fun n _ => (upto_none _ n).symm, by go_grown⟩
  case round =>
    obtain ⟨k, hk, rfl, hA, hS, hb⟩ := hrel
    have HS := hidden hS
    have HA := hidden hA
    by_cases hlt : k < 256
    · obtain ⟨c0, c1, c2, c3, f0, f1, f2, f3⟩ := hS.facts
      clear hS hA
      by_cases hin : lo ≤ k ∧ (k : Int) ≤ hi
      · have hin1 := hin.1
        have hin2 := hin.2
        go_wp2_with fail
        refine (with_nat _ _ _ (by omega)).mono ?_
        rintro e w' ⟨rfl, hb1⟩
        have hS' := HS.out.below hb1
        have hA' := HA.out.below hb1
        clear c0 c1 c2 c3 f0 f1 f2 f3
        obtain ⟨c0, c1, c2, c3, f0, f1, f2, f3⟩ := hS'.facts
        have HS' := hidden hS'
        have HA' := hidden hA'
        clear hS' hA'
        go_wp2
        go_roundw
        case rel =>
          exact ⟨k + 1, by omega, by go_num, set_other HA'.out (by omega) _ _ _ _, HS'.out.stored.congr fun n _ => span_step lo hi k hin n,
            below_cells (below_then hb (by have := hb.size; omega) hb1) _ (by omega) _ _ _ _⟩
        case measure => simp [intOf]; omega
      · go_wp2
        all_goals
          refine ⟨⟨k + 1, by omega, by go_num, HA.out, HS.out.congr fun n _ => span_skip lo hi k hin n, hb⟩, by simp [intOf]; omega⟩
    · obtain ⟨c0, c1, c2, c3, f0, f1, f2, f3⟩ := hS.facts
      obtain ⟨d0, d1, d2, d3, g0, g1, g2, g3⟩ := hA.facts
      clear hS hA
      have e : k = 256 := by omega
      have HE := hidden e
      clear e
      go_wp2
      refine ret_setAt Tryd.results113 rfl rfl HA.out.stored (fun n hn => ?_) ⟨rfl, below_cells hb _ (by omega) _ _ _ _⟩
      rw [HE.out, upto_all _ n hn]
end Go.Proofs.YtbokhofdgdcpdaaDoor
