/- FaMat, FaTab, FaTabs, put together. -/
import Derived.Test.YtbokhofdgdcpdaaDoorSp14
import Derived.Test.YtbokhofdgdcpdaaDoorSp07
import Derived.Lib.SmallJoins
import Derived.Laws.MakeOwn
import Derived.Maps.AppendAt
import Derived.Deep.OwnRows
import Derived.RangeFuncBox
/- Which place of a word leads to which, as tables: the reference's way, and the words that are matched. Of no program. -/
namespace Go.Proofs.YtbokhofdgdcpdaaDoor

def mBoth (A B : Nat → Nat → Bool) (p q : Nat) : Bool := A p q || B p q
def mBehind (N : Nat) (A B : Nat → Nat → Bool) (p q : Nat) : Bool := (List.range N).any fun k => decide (p ≤ k) && (decide (k ≤ q) && (A p k && B k q))
def mSame (p q : Nat) : Bool := decide (p = q)
def mSet (f : Nat → Bool) (W : List Nat) (p q : Nat) : Bool := decide (p < W.length) && (decide (q = p + 1) && f (W.getD p 0))
def mAgain (N : Nat) (A : Nat → Nat → Bool) : Nat → Nat → Nat → Bool
  | 0 => A
  | t + 1 => mBoth (mAgain N A t) (mBehind N (mAgain N A t) (mAgain N A t))
/-- the same at all places of a word -/
def Alike (N : Nat) (A B : Nat → Nat → Bool) : Prop := ∀ p q, p < N → q < N → A p q = B p q
theorem Alike.refl (N : Nat) (A : Nat → Nat → Bool) : Alike N A A := fun _ _ _ _ => rfl
theorem Alike.trans {N : Nat} {A B C : Nat → Nat → Bool} (h : Alike N A B) (k : Alike N B C) : Alike N A C := fun p q hp hq => (h p q hp hq).trans (k p q hp hq)
theorem Alike.both {N : Nat} {A B A' B' : Nat → Nat → Bool} (h : Alike N A A') (k : Alike N B B') : Alike N (mBoth A B) (mBoth A' B') := fun p q hp hq => by
  simp only [mBoth, h p q hp hq, k p q hp hq]
theorem any_congr {α : Type} {l : List α} {f g : α → Bool} (h : ∀ x ∈ l, f x = g x) : l.any f = l.any g := by
  induction l with
  | nil => rfl
  | cons x r ih => rw [List.any_cons, List.any_cons, h x (by simp), ih fun y hy => h y (by simp [hy])]
theorem Alike.behind {N : Nat} {A B A' B' : Nat → Nat → Bool} (h : Alike N A A') (k : Alike N B B') : Alike N (mBehind N A B) (mBehind N A' B') := fun p q hp hq => by
  unfold mBehind
  refine any_congr fun x hx => ?_
  have hx' := List.mem_range.1 hx
  rw [h p x hp hx', k x q hx' hq]
theorem Alike.again {N : Nat} {A A' : Nat → Nat → Bool} (h : Alike N A A') : ∀ t, Alike N (mAgain N A t) (mAgain N A' t)
  | 0 => h
  | t + 1 => ((Alike.again h t).both ((Alike.again h t).behind (Alike.again h t)))

theorem sub_len {W : List Nat} {p q : Nat} (h : q ≤ W.length) : (sub W p q).length = q - p := by
  unfold sub
  simp
  omega
theorem sub_split {W : List Nat} {p k q : Nat} (h1 : p ≤ k) (h2 : k ≤ q) : sub W p q = sub W p k ++ sub W k q := by
  unfold sub
  have e : W.take q = W.take k ++ (W.take q).drop k := by
    have := (List.take_append_drop k (W.take q)).symm
    rwa [List.take_take, Nat.min_eq_left h2] at this
  rcases Nat.lt_or_ge W.length k with h | h
  · have e2 : (W.take q).drop k = [] := by
      rw [List.drop_eq_nil_iff]
      simp
      omega
    rw [e2, List.append_nil, List.take_of_length_le (by omega : W.length ≤ q), List.take_of_length_le (by omega : W.length ≤ k)]
  · conv => lhs; rw [e]
    rw [List.drop_append_of_le_length (by simp; omega)]
theorem sub_parts {W : List Nat} {p q : Nat} (hp : p ≤ q) (hq : q ≤ W.length) {x y : List Nat} (h : sub W p q = x ++ y) : p + x.length ≤ q ∧ x = sub W p (p + x.length) ∧ y = sub W (p + x.length) q := by
  have hl := congrArg List.length h
  rw [sub_len hq, List.length_append] at hl
  have h1 : p + x.length ≤ q := by omega
  have h2 := sub_split (W := W) (p := p) (k := p + x.length) (q := q) (by omega) h1
  rw [h] at h2
  have h3 := List.append_inj h2 (by rw [sub_len (by omega)]; omega)
  exact ⟨h1, h3.1, h3.2⟩
theorem sub_one {W : List Nat} {p : Nat} (h : p < W.length) : sub W p (p + 1) = [W.getD p 0] := by
  have e := sub_more W p 0
  rw [Nat.add_zero] at e
  rw [e, List.drop_eq_getElem_cons h, List.getD_eq_getElem?_getD, List.getElem?_eq_getElem h]
  rfl

theorem mat_set (f : Nat → Bool) {W : List Nat} (hW : ∀ c ∈ W, c < 256) : Alike (W.length + 1) (mSet f W) (lgB (.set f) W) := fun p q hp hq => by
  rw [Bool.eq_iff_iff, lgB_iff]
  simp only [mSet, Bool.and_eq_true, decide_eq_true_eq]
  constructor
  · rintro ⟨h1, rfl, h3⟩
    refine ⟨by omega, by omega, W.getD p 0, sub_one h1, hW _ ?_, h3⟩
    rw [List.getD_eq_getElem?_getD, List.getElem?_eq_getElem h1]
    exact List.getElem_mem h1
  · rintro ⟨h1, h2, c, h3, _, h5⟩
    have hl := congrArg List.length h3
    rw [sub_len h2] at hl
    simp only [List.length_cons, List.length_nil] at hl
    obtain rfl : q = p + 1 := by omega
    rw [sub_one (by omega)] at h3
    cases h3
    exact ⟨by omega, rfl, h5⟩
theorem mat_emp (W : List Nat) : Alike (W.length + 1) mSame (lgB .emp W) := fun p q hp hq => by
  rw [Bool.eq_iff_iff, lgB_iff]
  simp only [mSame, decide_eq_true_eq, Lang]
  constructor
  · rintro rfl
    exact ⟨Nat.le_refl _, by omega, sub_self W p⟩
  · rintro ⟨h1, h2, h3⟩
    have hl := congrArg List.length h3
    rw [sub_len h2] at hl
    simp only [List.length_nil] at hl
    omega
theorem mat_cat (a b : Ex) (W : List Nat) : Alike (W.length + 1) (mBehind (W.length + 1) (lgB a W) (lgB b W)) (lgB (.cat a b) W) := fun p q hp hq => by
  rw [Bool.eq_iff_iff, lgB_iff]
  simp only [mBehind, List.any_eq_true, List.mem_range, Bool.and_eq_true, decide_eq_true_eq, lgB_iff, Lang]
  constructor
  · rintro ⟨k, hk, h1, h2, ⟨_, h4, h5⟩, _, h7, h8⟩
    exact ⟨by omega, h7, _, _, sub_split h1 h2, h5, h8⟩
  · rintro ⟨h1, h2, x, y, h3, h4, h5⟩
    obtain ⟨g1, g2, g3⟩ := sub_parts h1 h2 h3
    rw [g2] at h4
    rw [g3] at h5
    exact ⟨p + x.length, by omega, by omega, g1, ⟨by omega, by omega, h4⟩, g1, h2, h5⟩
theorem mat_alt (a b : Ex) (W : List Nat) : Alike (W.length + 1) (mBoth (lgB a W) (lgB b W)) (lgB (.alt a b) W) := fun p q hp hq => by
  rw [Bool.eq_iff_iff, lgB_iff]
  simp only [mBoth, Bool.or_eq_true, lgB_iff, Lang]
  constructor
  · rintro (⟨h1, h2, h3⟩ | ⟨h1, h2, h3⟩)
    · exact ⟨h1, h2, .inl h3⟩
    · exact ⟨h1, h2, .inr h3⟩
  · rintro ⟨h1, h2, h3 | h3⟩
    · exact .inl ⟨h1, h2, h3⟩
    · exact .inr ⟨h1, h2, h3⟩
/-- put together of some of the words -/
theorem many_words {P : List Nat → Prop} {u : List Nat} (h : Many P u) : ∃ ws : List (List Nat), 1 ≤ ws.length ∧ (∀ w ∈ ws, P w) ∧ u = ws.flatten := by
  induction h with
  | @one u h => exact ⟨[u], by simp, by simpa using h, by simp⟩
  | @more u v h t ih =>
    obtain ⟨ws, h1, h2, rfl⟩ := ih
    exact ⟨u :: ws, by simp, by simpa using ⟨h, h2⟩, by simp⟩
theorem words_many {P : List Nat → Prop} : ∀ ws : List (List Nat), 1 ≤ ws.length → (∀ w ∈ ws, P w) → Many P ws.flatten
  | [], h, _ => by simp at h
  | [u], _, h => by simpa using Many.one (h u (by simp))
  | u :: v :: r, _, h => by
    rw [List.flatten_cons]
    exact .more (h u (by simp)) (words_many (v :: r) (by simp) fun w hw => h w (by simp [hw]))
/-- no more words than bytes, but for one -/
theorem few_words {P : List Nat → Prop} {u : List Nat} (h : Many P u) : ∃ ws : List (List Nat), 1 ≤ ws.length ∧ ws.length ≤ u.length + 1 ∧ (∀ w ∈ ws, P w) ∧ u = ws.flatten := by
  obtain ⟨ws, h1, h2, h3⟩ := many_words h
  by_cases hu : u = []
  · subst hu
    cases ws with
    | nil => simp at h1
    | cons w r =>
      have hw : w = [] := by
        rw [List.flatten_cons] at h3
        exact (List.append_eq_nil_iff.1 h3.symm).1
      exact ⟨[w], by simp, by simp, by simpa using h2 w (by simp), by simp [hw]⟩
  · have key : ∀ l : List (List Nat), (∀ w ∈ l, P w) → ∃ l' : List (List Nat), l'.length ≤ l.flatten.length ∧ (∀ w ∈ l', P w) ∧ l'.flatten = l.flatten := by
      intro l
      induction l with
      | nil => exact fun _ => ⟨[], by simp, by simp, rfl⟩
      | cons w r ih =>
        intro hl
        obtain ⟨l', g1, g2, g3⟩ := ih fun x hx => hl x (by simp [hx])
        by_cases hw : w = []
        · subst hw
          exact ⟨l', by simpa using g1, g2, by simpa using g3⟩
        · refine ⟨w :: l', ?_, ?_, by simp [g3]⟩
          · have : 1 ≤ w.length := by cases w <;> simp_all
            simp only [List.length_cons, List.flatten_cons, List.length_append]
            omega
          · intro x hx
            rcases List.mem_cons.1 hx with rfl | hx
            · exact hl x (by simp)
            · exact g2 x hx
    obtain ⟨l', g1, g2, g3⟩ := key ws h2
    rw [← h3] at g1 g3
    refine ⟨l', ?_, by omega, g2, g3.symm⟩
    cases l' with
    | nil =>
      simp at g3
      exact absurd g3.symm (by simpa using hu)
    | cons => simp
theorem many_append {P : List Nat → Prop} {u v : List Nat} (h : Many P u) (k : Many P v) : Many P (u ++ v) := by
  induction h with
  | one h => exact .more h k
  | more h t ih => rw [List.append_assoc]; exact .more h ih
theorem again_sound {a : Ex} {W : List Nat} : ∀ t p q, p < W.length + 1 → q < W.length + 1 → mAgain (W.length + 1) (lgB a W) t p q = true → p ≤ q ∧ Many (Lang a) (sub W p q)
  | 0, p, q, _, _, h => by
    obtain ⟨h1, _, h3⟩ := lgB_iff.1 h
    exact ⟨h1, .one h3⟩
  | t + 1, p, q, hp, hq, h => by
    simp only [mAgain, mBoth, Bool.or_eq_true] at h
    rcases h with h | h
    · exact again_sound t p q hp hq h
    · simp only [mBehind, List.any_eq_true, List.mem_range, Bool.and_eq_true, decide_eq_true_eq] at h
      obtain ⟨k, hk, h1, h2, h3, h4⟩ := h
      rw [sub_split h1 h2]
      exact ⟨by omega, many_append (again_sound t p k hp hk h3).2 (again_sound t k q hk hq h4).2⟩
theorem again_full {a : Ex} {W : List Nat} : ∀ t p q, p ≤ q → q < W.length + 1 → ∀ ws : List (List Nat), 1 ≤ ws.length → ws.length ≤ 2 ^ t → (∀ w ∈ ws, Lang a w) → sub W p q = ws.flatten → mAgain (W.length + 1) (lgB a W) t p q = true
  | 0, p, q, hp, hq, ws, h1, h2, h3, h4 => by
    match ws, h1, h2 with
    | [w], _, _ =>
      simp only [List.flatten_cons, List.flatten_nil, List.append_nil] at h4
      exact lgB_iff.2 ⟨hp, by omega, by rw [h4]; exact h3 w (by simp)⟩
    | _ :: _ :: _, _, h2 => simp at h2
  | t + 1, p, q, hp, hq, ws, h1, h2, h3, h4 => by
    simp only [mAgain, mBoth, Bool.or_eq_true]
    by_cases hs : ws.length ≤ 2 ^ t
    · exact .inl (again_full t p q hp hq ws h1 hs h3 h4)
    · refine .inr ?_
      have hpow : 2 ^ (t + 1) = 2 * 2 ^ t := by rw [Nat.pow_succ]; omega
      have hpos : 1 ≤ 2 ^ t := Nat.one_le_two_pow
      have e : ws = ws.take (2 ^ t) ++ ws.drop (2 ^ t) := (List.take_append_drop _ _).symm
      rw [e, List.flatten_append] at h4
      obtain ⟨g1, g2, g3⟩ := sub_parts hp (by omega) h4
      simp only [mBehind, List.any_eq_true, List.mem_range, Bool.and_eq_true, decide_eq_true_eq]
      refine ⟨p + (ws.take (2 ^ t)).flatten.length, by omega, by omega, g1, ?_, ?_⟩
      · exact again_full t _ _ (by omega) (by omega) (ws.take (2 ^ t)) (by simp; omega) (by simp; omega) (fun w hw => h3 w (List.mem_of_mem_take hw)) g2.symm
      · exact again_full t _ _ g1 hq (ws.drop (2 ^ t)) (by simp; omega) (by simp; omega) (fun w hw => h3 w (List.mem_of_mem_drop hw)) g3.symm
theorem again_iff {a : Ex} {W : List Nat} {t : Nat} (ht : W.length + 1 < 2 ^ t) {p q : Nat} (hp : p < W.length + 1) (hq : q < W.length + 1) : mAgain (W.length + 1) (lgB a W) t p q = true ↔ p ≤ q ∧ Many (Lang a) (sub W p q) := by
  refine ⟨again_sound t p q hp hq, fun ⟨h1, h2⟩ => ?_⟩
  obtain ⟨ws, g1, g2, g3, g4⟩ := few_words h2
  rw [sub_len (by omega)] at g2
  exact again_full t p q h1 hq ws g1 (by omega) g3 g4
theorem mat_plus (a : Ex) {W : List Nat} {t : Nat} (ht : W.length + 1 < 2 ^ t) : Alike (W.length + 1) (mAgain (W.length + 1) (lgB a W) t) (lgB (.un 6 a) W) := fun p q hp hq => by
  rw [Bool.eq_iff_iff, again_iff ht hp hq, lgB_iff]
  simp only [Lang, Int.reduceEq, if_false, if_true]
  exact ⟨fun h => ⟨h.1, by omega, h.2⟩, fun h => ⟨h.1, h.2.2⟩⟩
theorem mat_star (a : Ex) {W : List Nat} {t : Nat} (ht : W.length + 1 < 2 ^ t) : Alike (W.length + 1) (mBoth mSame (mAgain (W.length + 1) (lgB a W) t)) (lgB (.un 5 a) W) := fun p q hp hq => by
  rw [Bool.eq_iff_iff, lgB_iff]
  simp only [mBoth, Bool.or_eq_true, again_iff ht hp hq, mSame, decide_eq_true_eq, Lang, if_true]
  constructor
  · rintro (rfl | ⟨h1, h2⟩)
    · exact ⟨Nat.le_refl _, by omega, .inl (sub_self W p)⟩
    · exact ⟨h1, by omega, .inr h2⟩
  · rintro ⟨h1, h2, h3 | h3⟩
    · have hl := congrArg List.length h3
      rw [sub_len h2] at hl
      simp only [List.length_nil] at hl
      exact .inl (by omega)
    · exact .inr ⟨h1, h3⟩
theorem mat_opt (a : Ex) (W : List Nat) : Alike (W.length + 1) (mBoth mSame (lgB a W)) (lgB (.un 7 a) W) := fun p q hp hq => by
  rw [Bool.eq_iff_iff, lgB_iff]
  simp only [mBoth, Bool.or_eq_true, lgB_iff, mSame, decide_eq_true_eq, Lang, Int.reduceEq, if_false]
  constructor
  · rintro (rfl | ⟨h1, h2, h3⟩)
    · exact ⟨Nat.le_refl _, by omega, .inl (sub_self W p)⟩
    · exact ⟨h1, h2, .inr h3⟩
  · rintro ⟨h1, h2, h3 | h3⟩
    · have hl := congrArg List.length h3
      rw [sub_len h2] at hl
      simp only [List.length_nil] at hl
      exact .inl (by omega)
    · exact .inr ⟨h1, h2, h3⟩
end Go.Proofs.YtbokhofdgdcpdaaDoor

/- The reference's tables in memory: what a table reads as, a table of the call's own; none, same, set, both. -/
namespace Go.Proofs.YtbokhofdgdcpdaaDoor
open Go.RowKit Go.Lib Go.Joins

/-- block b has cells of a type -/
def Typ (w : World) (b : Nat) (t : TypeId) : Prop := ∃ cs fz, w.heap[b]? = some (.cells cs t fz)
theorem Typ.below {w w' : World} {b : Nat} {t : TypeId} (h : Typ w b t) (hb : Below w.heap.size w w') : Typ w' b t := by
  obtain ⟨cs, fz, h⟩ := h
  exact ⟨cs, fz, (hb.block b (Array.getElem?_eq_some_iff.1 h).1).trans h⟩
/-- slice value v reads as a table -/
def MatR (w : World) (v : Value) (N : Nat) (M : Nat → Nat → Bool) : Prop :=
  ∃ b off cap, v = .slice (some ⟨b, off, none⟩) N cap ∧ ∀ p, p < N → ∃ c o cp, w.cell? ⟨b, off + p, none⟩ = some (.slice (some ⟨c, o, none⟩) N cp) ∧ (∀ q, q < N → w.cell? ⟨c, o + q, none⟩ = some (.bool (M p q))) ∧ Typ w c 4
theorem MatR.below {w w' : World} {v : Value} {N : Nat} {M : Nat → Nat → Bool} (h : MatR w v N M) (hb : Below w.heap.size w w') : MatR w' v N M := by
  obtain ⟨b, off, cap, rfl, hc⟩ := h
  refine ⟨b, off, cap, rfl, fun p hp => ?_⟩
  obtain ⟨c, o, cp, h1, h2, h3⟩ := hc p hp
  exact ⟨c, o, cp, (hb.cell (p := ⟨b, off + p, none⟩) (cell_lt h1)).trans h1, fun q hq => (hb.cell (p := ⟨c, o + q, none⟩) (cell_lt (h2 q hq))).trans (h2 q hq), h3.below hb⟩
theorem MatR.congr {w : World} {v : Value} {N : Nat} {M M' : Nat → Nat → Bool} (h : MatR w v N M) (e : Alike N M M') : MatR w v N M' := by
  obtain ⟨b, off, cap, rfl, hc⟩ := h
  refine ⟨b, off, cap, rfl, fun p hp => ?_⟩
  obtain ⟨c, o, cp, h1, h2, h3⟩ := hc p hp
  exact ⟨c, o, cp, h1, fun q hq => by rw [h2 q hq, e p q hp hq], h3⟩
theorem grownBy_set (w : World) (b q : Nat) (v : Value) : w.grownBy (w.setCell ⟨b, q, none⟩ v) (some b) :=
  ⟨rfl, rfl, rfl, by simp [World.setCell], fun k _ hk => heap_setCell_other _ _ _ _ fun e => hk (by rw [e])⟩
def rowV (N c : Nat) : Value := .slice (some ⟨c, 0, none⟩) N N
/-- a table of the call's own, that may be written -/
structure TabW (w : World) (base g cap : Nat) (rs : List Nat) (N : Nat) (M : Nat → Nat → Bool) : Prop where
  own : w.ownsRow base 45 1 (.slice (some ⟨g, 0, none⟩) N cap) N (rs.map (rowV N))
  len : rs.length = N
  nodup : rs.Nodup
  low : ∀ p, p < N → base ≤ rs.getD p 0
  row : ∀ p, p < N → w.rowIs (rs.getD p 0) 4 N fun q => .bool (M p q)
section
variable {w : World} {base g cap : Nat} {rs : List Nat} {N : Nat} {M : Nat → Nat → Bool}
theorem TabW.blk (h : TabW w base g cap rs N M) : ∃ cur, w.heap[g]? = some (.cells cur 45 (0, 0)) := by
  rcases h.own.2 with ⟨e, _⟩ | ⟨g', cap', cur, e, _, hg, _⟩
  · cases e
  · simp only [Value.slice.injEq, Option.some.injEq, Addr.mk.injEq, and_true, true_and] at e
    obtain ⟨rfl, rfl⟩ := e
    exact ⟨cur, hg⟩
theorem TabW.ne (h : TabW w base g cap rs N M) {p : Nat} (hp : p < N) : rs.getD p 0 ≠ g := by
  intro e
  obtain ⟨cur, hg⟩ := h.blk
  obtain ⟨cs, hc, _⟩ := h.row p hp
  rw [e, hg] at hc
  simp at hc
theorem TabW.cell1 (h : TabW w base g cap rs N M) {p : Nat} (hp : p < N) : w.cell? ⟨g, p, none⟩ = some (.slice (some ⟨rs.getD p 0, 0, none⟩) N N) := by
  have hl := h.len
  rw [World.ownsRow.cellAt h.own p (by omega), List.getElem?_map, List.getElem?_eq_getElem (by omega), List.getD_eq_getElem?_getD, List.getElem?_eq_getElem (by omega)]
  rfl
theorem TabW.cell2 (h : TabW w base g cap rs N M) {p q : Nat} (hp : p < N) (hq : q < N) : w.cell? ⟨rs.getD p 0, q, none⟩ = some (.bool (M p q)) := (h.row p hp).cell hq
theorem TabW.frozen2 (h : TabW w base g cap rs N M) {p : Nat} (q : Nat) (hp : p < N) : w.frozen? ⟨rs.getD p 0, q, none⟩ = false := (h.row p hp).frozen q
theorem TabW.lt1 (h : TabW w base g cap rs N M) : base ≤ g ∧ g < w.heap.size := by
  obtain ⟨cur, hg⟩ := h.blk
  have := h.own.lt g rfl
  exact this
theorem TabW.reads (h : TabW w base g cap rs N M) : MatR w (.slice (some ⟨g, 0, none⟩) N cap) N M :=
  ⟨g, 0, cap, rfl, fun p hp => ⟨rs.getD p 0, 0, N, by rw [Nat.zero_add]; exact h.cell1 hp, fun q hq => by rw [Nat.zero_add]; exact h.cell2 hp hq, (h.row p hp).imp fun cs hc => ⟨_, hc.1⟩⟩⟩
theorem TabW.congr {M' : Nat → Nat → Bool} (h : TabW w base g cap rs N M) (e : Alike N M M') : TabW w base g cap rs N M' :=
  ⟨h.own, h.len, h.nodup, h.low, fun p hp => (h.row p hp).congr fun q hq => by rw [e p q hp hq]⟩
theorem TabW.below {w' : World} (h : TabW w base g cap rs N M) (hb : Below w.heap.size w w') : TabW w' base g cap rs N M :=
  ⟨h.own.kept (row := none) ⟨hb.os, hb.tape, hb.output, hb.size, fun k hk _ => hb.block k hk⟩ (.inr (by simp [Value.ownBlock])), h.len, h.nodup, h.low, fun p hp => (h.row p hp).of_block (hb.block _ (h.row p hp).lt)⟩
theorem TabW.lower {base' : Nat} (h : TabW w base g cap rs N M) (hb : base' ≤ base) : TabW w base' g cap rs N M :=
  ⟨ownsRow_le h.own hb, h.len, h.nodup, fun p hp => Nat.le_trans hb (h.low p hp), h.row⟩
theorem TabW.drew (h : TabW w base g cap rs N M) : TabW w.drew base g cap rs N M := h.below ⟨rfl, rfl, rfl, Nat.le_refl _, fun _ _ => rfl⟩
theorem TabW.set (h : TabW w base g cap rs N M) {p : Nat} (hp : p < N) (q : Nat) (x : Bool) : TabW (w.setCell ⟨rs.getD p 0, q, none⟩ (.bool x)) base g cap rs N (fun a b => if a = p ∧ b = q then x else M a b) := by
  refine ⟨?_, h.len, h.nodup, h.low, fun a ha => ?_⟩
  · exact h.own.kept (grownBy_set w _ q _) (.inr (by simp only [Value.ownBlock, ne_eq, Option.some.injEq]; exact (h.ne hp).symm))
  · by_cases e : a = p
    · subst e
      refine ((h.row a ha).set q (.bool x)).congr fun b hb => ?_
      by_cases e2 : b = q <;> simp [e2]
    · have hne : rs.getD a 0 ≠ rs.getD p 0 := by
        have hl := h.len
        rw [List.getD_eq_getElem?_getD, List.getD_eq_getElem?_getD, List.getElem?_eq_getElem (by omega), List.getElem?_eq_getElem (by omega)]
        have hpw := List.pairwise_iff_getElem.1 h.nodup
        rcases Nat.lt_trichotomy a p with h1 | h1 | h1
        · exact hpw a p _ _ h1
        · exact absurd h1 e
        · exact (hpw p a _ _ h1).symm
      refine ((h.row a ha).setOther (a := ⟨rs.getD p 0, q, none⟩) hne _).congr fun b hb => ?_
      simp [e]
end
/-- what a call that makes a table hands back -/
def RetM (w : World) (N : Nat) (M : Nat → Nat → Bool) (e : Ending) (w' : World) : Prop := ∃ g cap rs, e = .returned (.slice (some ⟨g, 0, none⟩) N cap) ∧ TabW w' w.heap.size g cap rs N M ∧ Below w.heap.size w w'

/-! ### an empty table -/
theorem infoBools : (Tryd.prog.info? 45).map (fun i => (i.zero, i.size, i.bytes)) = some (some (.slice none 0 0), 1, 24) := by kernel_rfl
theorem infoBool : (Tryd.prog.info? 4).map (fun i => (i.zero, i.size, i.bytes)) = some (some (.bool false), 1, 1) := by kernel_rfl
/-- the first k rows -/
structure Rows0 (w : World) (N k : Nat) (v : Value) (rs : List Nat) (wr : World) : Prop where
  own : wr.ownsRow w.heap.size 45 1 v k (rs.map (rowV N))
  len : rs.length = k
  nodup : rs.Nodup
  low : ∀ c ∈ rs, w.heap.size ≤ c
  row : ∀ c ∈ rs, wr.rowIs c 4 N fun _ => .bool false
  frame : Below w.heap.size w wr
theorem Rows0.done {w wr : World} {N : Nat} {g cap : Nat} {rs : List Nat} (h : Rows0 w N N (.slice (some ⟨g, 0, none⟩) N cap) rs wr) : TabW wr w.heap.size g cap rs N (fun _ _ => false) := by
  have hl := h.len
  have hm : ∀ p, p < N → rs.getD p 0 ∈ rs := fun p hp => by
    rw [List.getD_eq_getElem?_getD, List.getElem?_eq_getElem (by omega)]
    exact List.getElem_mem _
  exact ⟨h.own, h.len, h.nodup, fun p hp => h.low _ (hm p hp), fun p hp => h.row _ (hm p hp)⟩
theorem Rows0.start (w : World) (N b : Nat) (hb : b = w.heap.size) (cur : Array Value) (hc : cur = #[]) : Rows0 w N 0 (.slice (some ⟨b, 0, none⟩) 0 0) [] (w.alloc (.cells cur 45)) := by
  subst hb hc
  exact ⟨World.ownsRow_lit (e := 45) (size := 1) w #[] 0 (Nat.le_refl _) (by decide) rfl, rfl, List.nodup_nil, (fun c hc => by cases hc), (fun c hc => by cases hc), (Below.refl _ _).alloc (Nat.le_refl _) _⟩
/-- a row is made -/
theorem Rows0.made {w wr : World} {N k : Nat} {v : Value} {rs : List Nat} (h : Rows0 w N k v rs wr) (cur : Array Value) (hc : cur = madeCells #[Value.bool false] N) (x : Value) :
    Rows0 w N k v rs ((wr.alloc (.cells cur 4)).alloc (.cells #[x] 45)) ∧ wr.heap.size ∉ rs ∧ w.heap.size ≤ wr.heap.size ∧ ((wr.alloc (.cells cur 4)).alloc (.cells #[x] 45)).rowIs wr.heap.size 4 N fun _ => .bool false := by
  subst hc
  refine ⟨⟨World.ownsRow.alloc (World.ownsRow.alloc h.own _) _, h.len, h.nodup, h.low, fun c hc => ((h.row c hc).alloc _).alloc _, (h.frame.alloc h.frame.size _).alloc (by have := h.frame.size; simp; omega) _⟩, fun hm => ?_, h.frame.size, (World.rowIs_made wr _ N _).alloc _⟩
  exact absurd (h.row _ hm).lt (Nat.lt_irrefl _)
/-- and put behind the others -/
theorem Rows0.more {w wr w' : World} {N k c : Nat} {v v' : Value} {rs : List Nat} (h : Rows0 w N k v rs wr) (hn : c ∉ rs) (hlow : w.heap.size ≤ c) (hr : wr.rowIs c 4 N fun _ => .bool false)
    (hown : w'.ownsRow w.heap.size 45 1 v' (k + 1) (rs.map (rowV N) ++ [rowV N c])) (hg : wr.grownBy w' v.ownBlock) : Rows0 w N (k + 1) v' (rs ++ [c]) w' := by
  have hne : ∀ d, (wr.rowIs d 4 N fun _ => .bool false) → some d ≠ v.ownBlock := fun d hd e => by
    obtain ⟨cs, hc, _⟩ := hd
    rcases h.own.2 with ⟨rfl, _⟩ | ⟨g, cap, cur, rfl, _, hgg, _⟩
    · simp [Value.ownBlock] at e
    · simp only [Value.ownBlock, Option.some.injEq] at e
      subst e
      rw [hgg] at hc
      simp at hc
  have hkeep : ∀ d, (wr.rowIs d 4 N fun _ => .bool false) → w'.rowIs d 4 N fun _ => .bool false := fun d hd => hd.of_block (hg.block d hd.lt (hne d hd))
  refine ⟨by simpa using hown, by simp [h.len], ?_, ?_, ?_, h.frame.grown hg h.frame.size fun j e => (h.own.lt j e).1⟩
  · rw [List.nodup_append]
    exact ⟨h.nodup, by simp, fun a ha b hb => by simp at hb; rintro rfl; exact hn (hb ▸ ha)⟩
  · intro d hd
    rcases List.mem_append.1 hd with hd | hd
    · exact h.low d hd
    · simp at hd; subst hd; exact hlow
  · intro d hd
    rcases List.mem_append.1 hd with hd | hd
    · exact hkeep d (h.row d hd)
    · simp at hd; subst hd; exact hkeep d hr
set_option maxHeartbeats 2000000 in
set_option maxRecDepth 100000 in
theorem none_calls (s : ByteArray) (w : World) (hs : s.size ≤ 1000) : Calls Tryd.prog 104 #[.string s] w (RetM w (s.size + 1) fun _ _ => false) := by
  obtain ⟨i0, hi, hz0, hz1, hz2⟩ := info_parts infoBools
  obtain ⟨i1, hj, hy0, hy1, hy2⟩ := info_parts infoBool
  have hadd : IntKind.i64.wrap ((s.size : Int) + 1) = ((s.size + 1 : Nat) : Int) := by rw [IntKind.wrap_i64]; omega
  have hmk : ∀ W, (Instr.makeSlice 45 (.int .i64 ((s.size + 1 : Nat) : Int)) (.int .i64 ((s.size + 1 : Nat) : Int))).run Tryd.prog W = .ok (.slice (some ⟨W.heap.size, 0, none⟩) (s.size + 1) (s.size + 1)) (W.alloc (.cells (madeCells #[Value.bool false] (s.size + 1)) 4)) := fun W => by
    have := run_make (P := Tryd.prog) W 45 4 i1 _ Tryd.underlying45 hj hy0 .i64 .i64 ((s.size + 1 : Nat) : Int) ((s.size + 1 : Nat) : Int) (by omega) (by omega) (by rw [hy2]; omega) (by omega)
    simpa [hy1, Value.cells] using this
  obtain ⟨n, hn⟩ : ∃ n, n = s.size := ⟨_, rfl⟩
  rw [← hn] at hs hadd hmk ⊢
  obtain ⟨N, hN⟩ : ∃ N, N = n + 1 := ⟨_, rfl⟩
  obtain ⟨cur0, hcur⟩ : ∃ c, c = madeCells #[Value.bool false] (n + 1) := ⟨_, rfl⟩
  rw [← hN] at hmk hadd ⊢
  rw [← hN] at hcur
  rw [← hcur] at hmk
  have HC := hidden hcur
  have HN := hidden hN
  have HNN := hidden hn
  have hnn : s.size = n := hn.symm
  have hNle : N ≤ 1001 := by omega
  clear hy0 hy1 hy2 hj hcur hN hn
  go_enter Tryd.func104, Tryd.ntmps104
  go_wp2
  go_loopw [3, 4] (fun v i wr => ∃ (j : Nat) (rs : List Nat), j ≤ N ∧ i = .int .i64 j ∧ Rows0 w N j v rs wr) (fun _ i _ => N - (intOf i).toNat)
  case atStart => exact ⟨0, [], by omega, rfl, Rows0.start w N _ rfl _ rfl⟩
  case round =>
    obtain ⟨j, rs, hj, rfl, hp⟩ := hrel
    have HP := hidden hp
    clear hp
    have hNn : N = n + 1 := HN.out
    by_cases hlt : j < N
    · have hd : decide ((j : Int) ≤ n) = true := decide_eq_true (by omega)
      have hd' : decide (j ≤ n) = true := decide_eq_true (by omega)
      obtain ⟨p1, p2, p3, p4⟩ := HP.out.made cur0 HC.out (rowV N wr.heap.size)
      have P1 := hidden p1
      have P2 := hidden p2
      have P4 := hidden p4
      have HL := hidden hlt
      clear p1 p2 p4
      clear hNn
      go_wp2_with (at_builtin; refine wpList_append_own _ rfl _ _ 107 rfl w.heap.size 45 i0 (.slice none 0 0) 1 24 Tryd.underlying107 hi hz0 hz1 hz2 rfl (by decide) _ j (rs.map (rowV N)) rfl P1.out.own ⟨wr.heap.size + 1, 0, none⟩ 1 1 [rowV N wr.heap.size] rfl rfl ?d1 ?d2 ?d3 ?d4 ?d5 ?_)
      case d1 =>
        have := cell_one_new (wr.alloc (.cells cur0 4)) (rowV N wr.heap.size) 45
        have e : (wr.alloc (.cells cur0 4)).heap.size = wr.heap.size + 1 := by simp
        rw [e] at this
        exact this
      case d2 => intro x hx; simp at hx; subst hx; rfl
      case d3 => have := HN.out; unfold maxLen; omega
      case d4 => have := HN.out; omega
      case d5 => simp; omega
      intro v' w3 hown hgrow _
      have HS := hidden (P1.out.more P2.out p3 P4.out hown hgrow)
      clear hown hgrow
      go_wp2
      have hNn := HN.out
      have hlt' := HL.out
      go_roundw
      case rel => exact ⟨j + 1, _, by omega, by go_num, HS.out⟩
      case measure => simp [intOf]; omega
    · have hj' : j = N := by omega
      subst hj'
      have hd : decide ((j : Int) ≤ n) = false := decide_eq_false (by omega)
      have hd' : decide (j ≤ n) = false := decide_eq_false (by omega)
      rcases ownsRow_forms HP.out.own with ⟨_, h0⟩ | ⟨g', cap', rfl⟩
      · omega
      clear hNn
      go_wp2
      go_ret
      exact ⟨g', cap', rs, rfl, HP.out.done, HP.out.frame⟩
end Go.Proofs.YtbokhofdgdcpdaaDoor

/- Contracts of the reference's tables: same, set, both. -/
namespace Go.Proofs.YtbokhofdgdcpdaaDoor
open Go.RowKit Go.Lib Go.Joins

/-- the part of a table ahead of a place -/
def mTo (M : Nat → Nat → Bool) (p q a b : Nat) : Bool := (decide (a < p) || (decide (a = p) && decide (b < q))) && M a b
theorem mTo_none (N : Nat) (M : Nat → Nat → Bool) : Alike N (fun _ _ => false) (mTo M 0 0) := fun a b _ _ => by simp [mTo]
theorem mTo_put {N : Nat} {M : Nat → Nat → Bool} {p q : Nat} {x : Bool} (hx : x = M p q) : Alike N (fun a b => if a = p ∧ b = q then x else mTo M p q a b) (mTo M p (q + 1)) := fun a b _ _ => by
  subst hx
  simp only [mTo]
  by_cases e : a = p
  · subst e
    by_cases e2 : b = q
    · subst e2; simp
    · have h1 : decide (b < q) = decide (b < q + 1) := by simp; omega
      simp [e2, h1]
  · simp [e]
theorem mTo_row {N : Nat} {M : Nat → Nat → Bool} {p : Nat} : Alike N (mTo M p N) (mTo M (p + 1) 0) := fun a b _ hb => by
  simp only [mTo]
  by_cases e : a < p
  · simp [e, show a < p + 1 by omega]
  · by_cases e2 : a = p
    · subst e2; simp [hb]
    · simp [e, e2, show ¬ a < p + 1 by omega]
theorem mTo_all {N : Nat} {M : Nat → Nat → Bool} : Alike N (mTo M N 0) M := fun a b ha _ => by simp [mTo, ha]

set_option maxHeartbeats 2000000 in
set_option maxRecDepth 100000 in
theorem msame_calls (s : ByteArray) (w : World) (hs : s.size ≤ 1000) : Calls Tryd.prog 95 #[.string s] w (RetM w (s.size + 1) mSame) := by
  have H0 := hidden (none_calls s w hs)
  obtain ⟨n, hn⟩ : ∃ n, n = s.size := ⟨_, rfl⟩
  rw [← hn] at hs H0 ⊢
  obtain ⟨N, hN⟩ : ∃ N, N = n + 1 := ⟨_, rfl⟩
  rw [← hN] at H0 ⊢
  have hnn : s.size = n := hn.symm
  have hNle : N ≤ 1001 := by omega
  have HN := hidden hN
  clear hN hn
  go_enter Tryd.func95, Tryd.ntmps95
  go_wp2_with fail
  refine H0.out.mono ?_
  rintro e w1 ⟨g, cap, rs, rfl, ht, hb⟩
  have HT := hidden ht
  have HB := hidden hb
  clear ht hb
  go_wp2
  go_loopw [4] (fun i wr => ∃ j : Nat, j ≤ N ∧ i = .int .i64 j ∧ TabW wr w.heap.size g cap rs N (mTo mSame j 0) ∧ Below w.heap.size w wr) (fun i _ => N - (intOf i).toNat)
  case atStart => exact ⟨0, by omega, rfl, HT.out.congr (mTo_none N _), HB.out⟩
  case round =>
    obtain ⟨j, hj, rfl, ht, hb⟩ := hrel
    have HT1 := hidden ht
    have HB1 := hidden hb
    clear ht hb
    by_cases hlt : j < N
    · have hNn := HN.out
      have hd : decide ((j : Int) ≤ n) = true := decide_eq_true (by omega)
      have hd' : decide (j ≤ n) = true := decide_eq_true (by omega)
      have c1 := HT1.out.cell1 hlt
      have c2 := HT1.out.cell2 hlt hlt
      have f2 := HT1.out.frozen2 j hlt
      have hset := (HT1.out.set hlt j true).congr (M' := mTo mSame (j + 1) 0) (fun a b ha hb' => by
        simp only [mTo, mSame]
        by_cases e : a = j
        · subst e
          by_cases e2 : b = a
          · subst e2; simp
          · have : ¬ a = b := fun h => e2 h.symm
            simp [e2, this]
        · have : decide (a < j) = decide (a < j + 1) := by simp; omega
          simp [e, this])
      have HS := hidden hset
      have hlow := HT1.out.low j hlt
      have HB2 := hidden (HB1.out.setCell (p := ⟨rs.getD j 0, j, none⟩) hlow (.bool true))
      generalize rs.getD j 0 = c at *
      clear hset hNn
      go_wp2
      go_roundw
      case rel => exact ⟨j + 1, by omega, by go_num, HS.out, HB2.out⟩
      case measure => simp [intOf]; omega
    · obtain rfl : j = N := by omega
      have hNn := HN.out
      have hd : decide ((j : Int) ≤ n) = false := decide_eq_false (by omega)
      have hd' : decide (j ≤ n) = false := decide_eq_false (by omega)
      clear hNn
      go_wp2
      go_ret
      exact ⟨g, cap, rs, rfl, HT1.out.congr mTo_all, HB1.out⟩

/-- the bytes of a text -/
def byN (s : ByteArray) : List Nat := s.data.toList.map UInt8.toNat
theorem byN_len (s : ByteArray) : (byN s).length = s.size := by simp [byN]
theorem byN_at (s : ByteArray) (i : Nat) (h : i < s.size) : (byN s).getD i 0 = s[i].toNat := by
  have h' : i < s.data.size := h
  have e : s.data[i]? = some s.data[i] := by simp
  simp only [byN, List.getD_eq_getElem?_getD, List.getElem?_map, Array.getElem?_toList, e]
  rfl
theorem byN_lt (s : ByteArray) : ∀ c ∈ byN s, c < 256 := fun c hc => by
  simp only [byN, List.mem_map] at hc
  obtain ⟨b, _, rfl⟩ := hc
  exact UInt8.toNat_lt b

set_option maxHeartbeats 4000000 in
set_option maxRecDepth 100000 in
theorem mset_calls (f : Nat → Bool) (s : ByteArray) (w : World) (hs : s.size ≤ 1000) : Calls Tryd.prog 96 #[(.agg #[.int .u64 (word (f) 0), .int .u64 (word (f) 1), .int .u64 (word (f) 2), .int .u64 (word (f) 3)]), .string s] w (RetM w (s.size + 1) (mSet f (byN s))) := by
  have H0 := hidden (none_calls s (w.alloc (.cells #[.int .u64 (word (f) 0), .int .u64 (word (f) 1), .int .u64 (word (f) 2), .int .u64 (word (f) 3)] 28)) hs)
  have HL := hidden (byN_len s)
  have HA := hidden (byN_at s)
  have hSA := SetAt.new w f
  obtain ⟨N, hN⟩ : ∃ N, N = s.size + 1 := ⟨_, rfl⟩
  rw [← hN] at H0 ⊢
  have hNle : N ≤ 1001 := by omega
  have HN := hidden hN
  have HSA := hidden hSA
  obtain ⟨M, hM⟩ : ∃ M, M = mSet f (byN s) := ⟨_, rfl⟩
  rw [← hM]
  have HM := hidden hM
  clear hN hM hSA
  go_enter Tryd.func96, Tryd.ntmps96
  go_wp2_with fail
  refine H0.out.mono ?_
  rintro e w1 ⟨g, cap, rs, rfl, ht, hb⟩
  have hbase : (w.alloc (.cells #[.int .u64 (word (f) 0), .int .u64 (word (f) 1), .int .u64 (word (f) 2), .int .u64 (word (f) 3)] 28)).heap.size = w.heap.size + 1 := by simp
  rw [hbase] at ht hb
  have HT := hidden ht
  have HB := hidden (below_then ((Below.refl w.heap.size w).alloc (Nat.le_refl _) (.cells #[.int .u64 (word (f) 0), .int .u64 (word (f) 1), .int .u64 (word (f) 2), .int .u64 (word (f) 3)] 28)) (by simp) (by rw [hbase]; exact hb))
  have HSB := hidden (show SetAt w1 w.heap.size f from (hb.block _ (Nat.lt_succ_self _)).trans HSA.out)
  clear ht hb hbase
  go_wp2
  go_loopw [6] (fun i wr => ∃ j : Nat, j ≤ s.size ∧ i = .int .i64 j ∧ TabW wr (w.heap.size + 1) g cap rs N (mTo M j 0) ∧ SetAt wr w.heap.size f ∧ Below w.heap.size w wr) (fun i _ => s.size - (intOf i).toNat)
  case atStart => exact ⟨0, by omega, rfl, HT.out.congr (mTo_none N _), HSB.out, HB.out⟩
  case round =>
    obtain ⟨j, hj, rfl, ht, hsa, hb⟩ := hrel
    have HT1 := hidden ht
    have HB1 := hidden hb
    have HS1 := hidden hsa
    clear ht hb hsa
    by_cases hlt : j < s.size
    · have hNn := HN.out
      obtain ⟨c0, c1, c2, c3, _, _, _, _⟩ := HS1.out.facts
      have hb256 : s[j].toNat < 256 := UInt8.toNat_lt _
      have HMJ := hidden (show M j (j + 1) = f (s[j]).toNat by
        rw [HM.out]
        simp only [mSet, HL.out, HA.out j hlt]
        simp [hlt])
      have HMO := hidden (show ∀ b, b ≠ j + 1 → M j b = false from fun b hb => by rw [HM.out]; simp [mSet, hb])
      obtain ⟨c, hc⟩ : ∃ c, c = rs.getD j 0 := ⟨_, rfl⟩
      obtain ⟨j1, hj1⟩ : ∃ j1, j1 = j + 1 := ⟨_, rfl⟩
      have d1 := HT1.out.cell1 (p := j) (by omega)
      rw [← hc] at d1
      have hw : IntKind.i64.wrap ((j : Int) + 1) = (j1 : Int) := by rw [IntKind.wrap_i64]; omega
      have hJ1 : j1 < N := by omega
      have hJ : j < N := by omega
      have hJle : j ≤ 1000 := by omega
      have key := hidden (show ∀ w2, Below wr.drew.heap.size wr.drew w2 → (w2.cell? ⟨g, j, none⟩ = some (.slice (some ⟨c, 0, none⟩) N N) ∧ (∃ u, w2.cell? ⟨c, j1, none⟩ = some u) ∧ w2.frozen? ⟨c, j1, none⟩ = false) ∧
          TabW (w2.setCell ⟨c, j1, none⟩ (.bool (f s[j].toNat))) (w.heap.size + 1) g cap rs N (mTo M j1 0) ∧ SetAt (w2.setCell ⟨c, j1, none⟩ (.bool (f s[j].toNat))) w.heap.size f ∧ Below w.heap.size w (w2.setCell ⟨c, j1, none⟩ (.bool (f s[j].toNat))) from fun w2 hb2 => by
        have t2 := HT1.out.drew.below hb2
        have s2 := SetAt.below (show SetAt wr.drew w.heap.size f from HS1.out) hb2
        have b2 := below_then HB1.out.drew (show w.heap.size ≤ wr.drew.heap.size from HB1.out.size) hb2
        have hjN : j < N := by omega
        have hlow := t2.low j hjN
        rw [hc]
        refine ⟨⟨t2.cell1 hjN, ⟨_, t2.cell2 hjN hJ1⟩, t2.frozen2 j1 hjN⟩, (t2.set hjN j1 _).congr fun a b ha hb => ?_, ?_, b2.setCell (p := ⟨rs.getD j 0, j1, none⟩) (show w.heap.size ≤ rs.getD j 0 by omega) _⟩
        · simp only [mTo]
          by_cases e : a = j
          · subst e
            have e3 : decide (a < j1) = true := decide_eq_true (by omega)
            by_cases e2 : b = j1
            · subst e2
              have := HMJ.out
              rw [← hj1] at this
              simp [e3, this]
            · have := HMO.out b (by omega)
              simp [e2, this]
          · have : decide (a < j) = decide (a < j1) := by simp; omega
            simp [e, this]
        · exact (heap_setCell_other w2 _ w.heap.size _ (show w.heap.size ≠ rs.getD j 0 by omega)).trans s2)
      have HC := hidden hc
      have HJ1 := hidden hj1
      clear hNn hc hj1
      go_wp2
      go_region_with (go_at_call 23; refine (rhas_nat f s[j].toNat _ hb256).mono ?_; rintro e w2 ⟨rfl, hb2⟩; have HK := hidden (key.out w2 hb2); obtain ⟨d2, ⟨u, d3⟩, d4⟩ := HK.out.1; clear hb2)
      all_goals
        go_wp2
        go_roundw
        case rel => exact ⟨j1, by have := HJ1.out; omega, by first | rfl | (rw [HJ1.out]; go_num), HK.out.2.1, HK.out.2.2.1, HK.out.2.2.2⟩
        case measure => have := HJ1.out; simp [intOf]; omega
    · obtain rfl : j = s.size := by omega
      have HE := hidden (fun a b (ha : a < s.size + 1) (hb : b < s.size + 1) => (show mTo M s.size 0 a b = M a b by
        simp only [mTo]
        by_cases e : a < s.size
        · simp [e]
        · rw [HM.out]
          simp [mSet, HL.out, e]))
      rw [← HN.out] at HE
      go_wp2
      go_ret
      refine ⟨g, cap, rs, rfl, ?_, HB1.out⟩
      exact (HT1.out.congr HE.out).lower (Nat.le_succ _)
end Go.Proofs.YtbokhofdgdcpdaaDoor
