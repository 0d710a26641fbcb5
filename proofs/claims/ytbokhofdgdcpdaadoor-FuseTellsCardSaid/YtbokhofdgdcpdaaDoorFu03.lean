/- FaLang, FaGlu, FaRun, put together. -/
import Derived.Test.YtbokhofdgdcpdaaDoorFu02
/- What the tree of an expression matches, and what is told of all that it matches. Of no program. -/
namespace Go.Proofs.YtbokhofdgdcpdaaDoor

/-- one or more words, put together -/
inductive Many (P : List Nat → Prop) : List Nat → Prop
  | one {u : List Nat} (h : P u) : Many P u
  | more {u v : List Nat} (h : P u) (t : Many P v) : Many P (u ++ v)
def Lang : Ex → List Nat → Prop
  | .set f, u => ∃ c, u = [c] ∧ c < 256 ∧ f c = true
  | .emp, u => u = []
  | .cat a b, u => ∃ x y, u = x ++ y ∧ Lang a x ∧ Lang b y
  | .alt a b, u => Lang a u ∨ Lang b u
  | .un k a, u => if k = 5 then u = [] ∨ Many (Lang a) u else if k = 6 then Many (Lang a) u else u = [] ∨ Lang a u
/-- is the empty word matched? -/
def nul : Ex → Bool
  | .set _ => false
  | .emp => true
  | .cat a b => nul a && nul b
  | .alt a b => nul a || nul b
  | .un k a => if k = 6 then nul a else true
theorem many_nil {P : List Nat → Prop} (h : Many P []) : P [] := by
  generalize hu : ([] : List Nat) = u at h
  induction h with
  | one h => exact h
  | @more x y hx t ih =>
    obtain ⟨rfl, rfl⟩ := List.append_eq_nil_iff.1 hu.symm
    exact hx
theorem nul_iff : ∀ e : Ex, e.ok → (nul e = true ↔ Lang e [])
  | .set f, _ => by simp [nul, Lang]
  | .emp, _ => by simp [nul, Lang]
  | .cat a b, ⟨ha, hb⟩ => by
    simp only [nul, Lang, Bool.and_eq_true, nul_iff a ha, nul_iff b hb]
    constructor
    · exact fun h => ⟨[], [], rfl, h.1, h.2⟩
    · rintro ⟨x, y, h, h1, h2⟩
      obtain ⟨rfl, rfl⟩ := List.append_eq_nil_iff.1 h.symm
      exact ⟨h1, h2⟩
  | .alt a b, ⟨ha, hb⟩ => by simp only [nul, Lang, Bool.or_eq_true, nul_iff a ha, nul_iff b hb]
  | .un k a, ⟨hk, ha⟩ => by
    have ih := nul_iff a ha
    rcases hk with rfl | rfl | rfl
    · simp [nul, Lang]
    · simp only [nul, Lang, if_true]
      rw [if_neg (by decide), ih]
      exact ⟨.one, many_nil⟩
    · simp [nul, Lang]

/-! ### how short, how long -/
def noneF (f : Nat → Bool) : Bool := (List.range 256).all fun n => !f n
theorem noneF_iff (f : Nat → Bool) : noneF f = true ↔ ∀ n, n < 256 → f n = false := by
  simp [noneF]
/-- how many bytes the shortest word has; -1: there is none -/
def shE : Ex → Int
  | .set f => if noneF f = true then -1 else 1
  | .emp => 0
  | .cat a b => if shE a = -1 ∨ shE b = -1 then -1 else shE a + shE b
  | .alt a b => if shE a = -1 ∨ shE b = -1 then max (shE a) (shE b) else min (shE a) (shE b)
  | .un k a => if k = 6 then shE a else 0
def lgr (a b : Int) : Int := if a = -2 ∨ b = -2 then -2 else max a b
def rep (a : Int) : Int := if 0 < a then -2 else a
theorem rep_spec (a : Int) : (0 < a ∧ rep a = -2) ∨ (a ≤ 0 ∧ rep a = a) := by
  unfold rep
  split <;> omega
theorem lgr_spec (a b : Int) : ((a = -2 ∨ b = -2) ∧ lgr a b = -2) ∨ (a ≠ -2 ∧ b ≠ -2 ∧ lgr a b = max a b) := by
  unfold lgr
  split <;> omega
/-- how many bytes the longest word has; -1: there is none; -2: longer than any -/
def loE : Ex → Int
  | .set f => if noneF f = true then -1 else 1
  | .emp => 0
  | .cat a b => if loE a = -1 ∨ loE b = -1 then -1 else if loE a = -2 ∨ loE b = -2 then -2 else loE a + loE b
  | .alt a b => lgr (loE a) (loE b)
  | .un k a => if k = 5 then lgr (rep (loE a)) 0 else if k = 6 then rep (loE a) else lgr (loE a) 0
theorem sh_range : ∀ e : Ex, -1 ≤ shE e ∧ shE e ≤ (ops e).length
  | .set f => by simp only [shE, ops, List.length_cons, List.length_nil]; split <;> omega
  | .emp => by simp [shE]
  | .cat a b => by
    have h1 := sh_range a
    have h2 := sh_range b
    simp only [shE, ops, List.length_append, List.length_cons, List.length_nil]
    split <;> omega
  | .alt a b => by
    have h1 := sh_range a
    have h2 := sh_range b
    simp only [shE, ops, List.length_append, List.length_cons, List.length_nil]
    split <;> omega
  | .un k a => by
    have h1 := sh_range a
    simp only [shE, ops, List.length_append, List.length_cons, List.length_nil]
    split <;> omega
theorem lo_range : ∀ e : Ex, -2 ≤ loE e ∧ loE e ≤ (ops e).length
  | .set f => by simp only [loE, ops, List.length_cons, List.length_nil]; split <;> omega
  | .emp => by simp [loE]
  | .cat a b => by
    have h1 := lo_range a
    have h2 := lo_range b
    simp only [loE, ops, List.length_append, List.length_cons, List.length_nil]
    split
    · omega
    · split <;> omega
  | .alt a b => by
    have h1 := lo_range a
    have h2 := lo_range b
    simp only [loE, lgr, ops, List.length_append, List.length_cons, List.length_nil]
    split <;> omega
  | .un k a => by
    have h1 := lo_range a
    simp only [loE, lgr, rep, ops, List.length_append, List.length_cons, List.length_nil]
    repeat' split
    all_goals omega
theorem sh_lo : ∀ e : Ex, e.ok → (shE e = -1 ↔ loE e = -1) ∧ (0 ≤ loE e → shE e ≤ loE e)
  | .set f, _ => by simp only [shE, loE]; split <;> simp
  | .emp, _ => by simp [shE, loE]
  | .cat a b, ⟨ha, hb⟩ => by
    have h1 := sh_lo a ha
    have h2 := sh_lo b hb
    have r1 := sh_range a
    have r2 := sh_range b
    have r3 := lo_range a
    have r4 := lo_range b
    simp only [shE, loE]
    repeat' split
    all_goals omega
  | .alt a b, ⟨ha, hb⟩ => by
    have h1 := sh_lo a ha
    have h2 := sh_lo b hb
    have r1 := sh_range a
    have r2 := sh_range b
    have r3 := lo_range a
    have r4 := lo_range b
    simp only [shE, loE, lgr]
    repeat' split
    all_goals omega
  | .un k a, ⟨hk, ha⟩ => by
    have h1 := sh_lo a ha
    have r1 := sh_range a
    have r3 := lo_range a
    have q1 := rep_spec (loE a)
    have q2 := lgr_spec (rep (loE a)) 0
    have q3 := lgr_spec (loE a) 0
    rcases hk with rfl | rfl | rfl
    · have e1 : shE (.un 5 a) = 0 := rfl
      have e2 : loE (.un 5 a) = lgr (rep (loE a)) 0 := rfl
      omega
    · have e1 : shE (.un 6 a) = shE a := rfl
      have e2 : loE (.un 6 a) = rep (loE a) := rfl
      omega
    · have e1 : shE (.un 7 a) = 0 := rfl
      have e2 : loE (.un 7 a) = lgr (loE a) 0 := rfl
      omega
theorem nul_sh : ∀ e : Ex, e.ok → (nul e = true ↔ shE e = 0)
  | .set f, _ => by simp only [shE, nul]; split <;> simp
  | .emp, _ => by simp [shE, nul]
  | .cat a b, ⟨ha, hb⟩ => by
    have r1 := sh_range a
    have r2 := sh_range b
    simp only [nul, shE, Bool.and_eq_true, nul_sh a ha, nul_sh b hb]
    split <;> omega
  | .alt a b, ⟨ha, hb⟩ => by
    have r1 := sh_range a
    have r2 := sh_range b
    simp only [nul, shE, Bool.or_eq_true, nul_sh a ha, nul_sh b hb]
    split <;> omega
  | .un k a, ⟨hk, ha⟩ => by
    have ih := nul_sh a ha
    rcases hk with rfl | rfl | rfl <;> simp [nul, shE, ih]
theorem many_len {P : List Nat → Prop} {m : Int} (_ : 0 ≤ m) (hP : ∀ u, P u → m ≤ u.length) {u : List Nat} (h : Many P u) : m ≤ u.length := by
  induction h with
  | one h => exact hP _ h
  | more h t ih => rw [List.length_append]; omega
theorem many_none {P : List Nat → Prop} (hP : ∀ u, ¬ P u) {u : List Nat} (h : Many P u) : False := by
  cases h with
  | one h => exact hP _ h
  | more h t => exact hP _ h
theorem many_nil_all {P : List Nat → Prop} (hP : ∀ u, P u → u = []) {u : List Nat} (h : Many P u) : u = [] := by
  induction h with
  | one h => exact hP _ h
  | more h t ih => rw [hP _ h, ih]; rfl
theorem sh_le : ∀ e : Ex, e.ok → ∀ u, Lang e u → shE e ≠ -1 ∧ shE e ≤ u.length
  | .set f, _, u, h => by
    obtain ⟨c, rfl, hc, hf⟩ := h
    have hn : ¬ noneF f = true := fun h => by
      have := (noneF_iff f).1 h c hc
      rw [hf] at this
      cases this
    simp [shE, hn]
  | .emp, _, u, h => by simp [shE]
  | .cat a b, ⟨ha, hb⟩, u, h => by
    obtain ⟨x, y, rfl, h1, h2⟩ := h
    have i1 := sh_le a ha x h1
    have i2 := sh_le b hb y h2
    have r1 := sh_range a
    have r2 := sh_range b
    simp only [shE, List.length_append]
    split <;> omega
  | .alt a b, ⟨ha, hb⟩, u, h => by
    have r1 := sh_range a
    have r2 := sh_range b
    simp only [shE]
    rcases h with h | h
    · have i1 := sh_le a ha u h
      split <;> omega
    · have i1 := sh_le b hb u h
      split <;> omega
  | .un k a, ⟨hk, ha⟩, u, h => by
    have r1 := sh_range a
    rcases hk with rfl | rfl | rfl
    · simp [shE]
    · simp only [Lang, if_true] at h
      rw [if_neg (by decide)] at h
      simp only [shE, if_true]
      have hne : shE a ≠ -1 := fun e => many_none (fun u hu => (sh_le a ha u hu).1 e) h
      exact ⟨hne, many_len (by omega) (fun u hu => (sh_le a ha u hu).2) h⟩
    · simp [shE]
theorem lo_ge : ∀ e : Ex, e.ok → ∀ u, Lang e u → loE e ≠ -1 ∧ (loE e = -2 ∨ u.length ≤ loE e)
  | .set f, ho, u, h => by
    have i0 := (sh_lo (.set f) ho).1
    have i1 := (sh_le (.set f) ho u h).1
    obtain ⟨c, rfl, hc, hf⟩ := h
    have : loE (.set f) ≠ -1 := fun e => i1 (i0.2 e)
    refine ⟨this, .inr ?_⟩
    simp only [loE] at this ⊢
    split
    · rename_i hn
      rw [if_pos hn] at this
      exact absurd rfl this
    · simp
  | .emp, _, u, h => by
    simp only [Lang] at h
    subst h
    simp [loE]
  | .cat a b, ⟨ha, hb⟩, u, h => by
    obtain ⟨x, y, rfl, h1, h2⟩ := h
    have i1 := lo_ge a ha x h1
    have i2 := lo_ge b hb y h2
    have r1 := lo_range a
    have r2 := lo_range b
    simp only [loE, List.length_append]
    repeat' split
    all_goals omega
  | .alt a b, ⟨ha, hb⟩, u, h => by
    have r1 := lo_range a
    have r2 := lo_range b
    simp only [loE, lgr]
    rcases h with h | h
    · have i1 := lo_ge a ha u h
      split <;> omega
    · have i1 := lo_ge b hb u h
      split <;> omega
  | .un k a, ⟨hk, ha⟩, u, h => by
    have r1 := lo_range a
    have key : Many (Lang a) u → rep (loE a) ≠ -1 ∧ (rep (loE a) = -2 ∨ u.length ≤ rep (loE a)) := fun hm => by
      have hne : loE a ≠ -1 := fun e => many_none (fun u hu => (lo_ge a ha u hu).1 e) hm
      unfold rep
      split
      · omega
      · by_cases h2 : loE a = -2
        · omega
        · have h0 : loE a = 0 := by omega
          have hu : u = [] := many_nil_all (fun v hv => by
            have := (lo_ge a ha v hv).2
            have : v.length = 0 := by omega
            exact List.length_eq_zero_iff.1 this) hm
          subst hu
          simp only [List.length_nil]
          omega
    rcases hk with rfl | rfl | rfl
    · simp only [Lang, if_true] at h
      simp only [loE, lgr, if_true]
      rcases h with rfl | h
      · simp only [List.length_nil]
        split <;> omega
      · have := key h
        split <;> omega
    · simp only [Lang, if_true] at h
      rw [if_neg (by decide)] at h
      have := key h
      simp only [loE, if_true]
      rw [if_neg (by decide)]
      exact this
    · simp only [Lang] at h
      rw [if_neg (by decide), if_neg (by decide)] at h
      simp only [loE, lgr]
      rw [if_neg (by decide), if_neg (by decide)]
      rcases h with rfl | h
      · simp only [List.length_nil]
        split <;> omega
      · have := lo_ge a ha u h
        split <;> omega

/-! ### the bytes -/
/-- some word, the empty one, first bytes, bytes used: as the program puts them together -/
structure Let where
  some : Bool
  null : Bool
  first : Nat → Bool
  used : Nat → Bool
def f2 (f g : Nat → Bool) (n : Nat) : Bool := f n || g n
def letE : Ex → Let
  | .set f => ⟨!noneF f, false, f, f⟩
  | .emp => ⟨true, true, fNone, fNone⟩
  | .cat a b => if (letE a).some = true ∧ (letE b).some = true then ⟨true, (letE a).null && (letE b).null, if (letE a).null = true then f2 (letE a).first (letE b).first else (letE a).first, f2 (letE a).used (letE b).used⟩ else ⟨false, false, fNone, fNone⟩
  | .alt a b => ⟨(letE a).some || (letE b).some, (letE a).null || (letE b).null, f2 (letE a).first (letE b).first, f2 (letE a).used (letE b).used⟩
  | .un k a => if k = 6 then letE a else ⟨true, true, (letE a).first, (letE a).used⟩
theorem let_some : ∀ e : Ex, e.ok → ((letE e).some = true ↔ shE e ≠ -1)
  | .set f, _ => by simp only [letE, shE]; cases noneF f <;> simp
  | .emp, _ => by simp [letE, shE]
  | .cat a b, ⟨ha, hb⟩ => by
    have i1 := let_some a ha
    have i2 := let_some b hb
    have r1 := sh_range a
    have r2 := sh_range b
    simp only [letE, shE, i1, i2]
    by_cases h : shE a ≠ -1 ∧ shE b ≠ -1
    · rw [if_pos h, if_neg (show ¬ (shE a = -1 ∨ shE b = -1) by omega)]
      exact iff_of_true rfl (by omega)
    · rw [if_neg h, if_pos (by omega)]
      simp
  | .alt a b, ⟨ha, hb⟩ => by
    have i1 := let_some a ha
    have i2 := let_some b hb
    have r1 := sh_range a
    have r2 := sh_range b
    simp only [letE, shE, Bool.or_eq_true, i1, i2]
    split <;> omega
  | .un k a, ⟨hk, ha⟩ => by
    have i1 := let_some a ha
    rcases hk with rfl | rfl | rfl <;> simp [letE, shE, i1]
theorem let_null : ∀ e : Ex, e.ok → (letE e).null = nul e
  | .set f, _ => rfl
  | .emp, _ => rfl
  | .cat a b, ⟨ha, hb⟩ => by
    have i1 := let_null a ha
    have i2 := let_null b hb
    simp only [letE, nul]
    split
    · rw [← i1, ← i2]
    · rename_i h
      symm
      rw [Bool.eq_false_iff]
      intro hn
      rw [Bool.and_eq_true, nul_sh a ha, nul_sh b hb] at hn
      exact h ⟨(let_some a ha).2 (by omega), (let_some b hb).2 (by omega)⟩
  | .alt a b, ⟨ha, hb⟩ => by simp only [letE, nul, let_null a ha, let_null b hb]
  | .un k a, ⟨hk, ha⟩ => by
    have i1 := let_null a ha
    rcases hk with rfl | rfl | rfl <;> simp [letE, nul, i1]
/-- where there is no word there is no byte -/
theorem let_none : ∀ e : Ex, e.ok → (letE e).some = false → ∀ n, n < 256 → (letE e).first n = false ∧ (letE e).used n = false
  | .set f, _, h, n, hn => by
    simp only [letE, Bool.not_eq_false'] at h
    have := (noneF_iff f).1 h n hn
    exact ⟨this, this⟩
  | .emp, _, h, n, hn => by simp [letE] at h
  | .cat a b, ⟨ha, hb⟩, h, n, hn => by
    simp only [letE] at h ⊢
    split
    · rename_i hc
      rw [if_pos hc] at h
      cases h
    · exact ⟨rfl, rfl⟩
  | .alt a b, ⟨ha, hb⟩, h, n, hn => by
    simp only [letE, Bool.or_eq_false_iff] at h ⊢
    have i1 := let_none a ha h.1 n hn
    have i2 := let_none b hb h.2 n hn
    simp [f2, i1, i2]
  | .un k a, ⟨hk, ha⟩, h, n, hn => by
    have i1 := let_none a ha
    rcases hk with rfl | rfl | rfl
    · simp [letE] at h
    · simp only [letE, if_true] at h ⊢
      exact i1 h n hn
    · simp [letE] at h
theorem many_all {P : List Nat → Prop} {q : Nat → Prop} (hP : ∀ u, P u → ∀ c ∈ u, q c) {u : List Nat} (h : Many P u) : ∀ c ∈ u, q c := by
  induction h with
  | one h => exact hP _ h
  | more h t ih =>
    intro c hc
    rcases List.mem_append.1 hc with hc | hc
    · exact hP _ h c hc
    · exact ih c hc
theorem many_head {P : List Nat → Prop} {q : Nat → Prop} (hP : ∀ c u, P (c :: u) → q c) {u : List Nat} (h : Many P u) : ∀ c v, u = c :: v → q c := by
  induction h with
  | one h => rintro c v rfl; exact hP c v h
  | @more x y hx t ih =>
    intro c v e
    cases x with
    | nil => exact ih c v e
    | cons d x => cases e; exact hP _ _ hx
theorem let_used : ∀ e : Ex, e.ok → ∀ u, Lang e u → ∀ c ∈ u, (letE e).used c = true
  | .set f, _, u, h, c, hc => by
    obtain ⟨d, rfl, hd, hf⟩ := h
    simp only [List.mem_singleton] at hc
    subst hc
    exact hf
  | .emp, _, u, h, c, hc => by
    simp only [Lang] at h
    subst h
    cases hc
  | .cat a b, ⟨ha, hb⟩, u, h, c, hc => by
    obtain ⟨x, y, rfl, h1, h2⟩ := h
    have s1 := (let_some a ha).2 (sh_le a ha x h1).1
    have s2 := (let_some b hb).2 (sh_le b hb y h2).1
    simp only [letE]
    rw [if_pos ⟨s1, s2⟩]
    simp only [f2, Bool.or_eq_true]
    rcases List.mem_append.1 hc with hc | hc
    · exact .inl (let_used a ha x h1 c hc)
    · exact .inr (let_used b hb y h2 c hc)
  | .alt a b, ⟨ha, hb⟩, u, h, c, hc => by
    simp only [letE, f2, Bool.or_eq_true]
    rcases h with h | h
    · exact .inl (let_used a ha u h c hc)
    · exact .inr (let_used b hb u h c hc)
  | .un k a, ⟨hk, ha⟩, u, h, c, hc => by
    have key : Many (Lang a) u → (letE a).used c = true := fun hm => many_all (q := fun c => (letE a).used c = true) (fun v hv => let_used a ha v hv) hm c hc
    rcases hk with rfl | rfl | rfl
    · simp only [Lang, if_true] at h
      rcases h with rfl | h
      · cases hc
      · simpa [letE] using key h
    · simp only [Lang, if_true] at h
      rw [if_neg (by decide)] at h
      simpa [letE] using key h
    · simp only [Lang] at h
      rw [if_neg (by decide), if_neg (by decide)] at h
      rcases h with rfl | h
      · cases hc
      · simpa [letE] using let_used a ha u h c hc
theorem let_first : ∀ e : Ex, e.ok → ∀ c u, Lang e (c :: u) → (letE e).first c = true
  | .set f, _, c, u, h => by
    obtain ⟨d, e, hd, hf⟩ := h
    cases e
    exact hf
  | .emp, _, c, u, h => by cases h
  | .cat a b, ⟨ha, hb⟩, c, u, h => by
    obtain ⟨x, y, e, h1, h2⟩ := h
    have s1 := (let_some a ha).2 (sh_le a ha x h1).1
    have s2 := (let_some b hb).2 (sh_le b hb y h2).1
    simp only [letE]
    rw [if_pos ⟨s1, s2⟩]
    cases x with
    | nil =>
      have hn : (letE a).null = true := by rw [let_null a ha]; exact (nul_iff a ha).2 h1
      rw [List.nil_append] at e
      subst e
      rw [if_pos hn]
      simp only [f2, Bool.or_eq_true]
      exact .inr (let_first b hb c u h2)
    | cons d x =>
      cases e
      have := let_first a ha c x h1
      simp only
      split
      · simp [f2, this]
      · exact this
  | .alt a b, ⟨ha, hb⟩, c, u, h => by
    simp only [letE, f2, Bool.or_eq_true]
    rcases h with h | h
    · exact .inl (let_first a ha c u h)
    · exact .inr (let_first b hb c u h)
  | .un k a, ⟨hk, ha⟩, c, u, h => by
    have key : Many (Lang a) (c :: u) → (letE a).first c = true := fun hm => many_head (q := fun c => (letE a).first c = true) (fun d v hv => let_first a ha d v hv) hm c u rfl
    rcases hk with rfl | rfl | rfl
    · simp only [Lang, if_true] at h
      rcases h with h | h
      · cases h
      · simpa [letE] using key h
    · simp only [Lang, if_true] at h
      rw [if_neg (by decide)] at h
      simpa [letE] using key h
    · simp only [Lang] at h
      rw [if_neg (by decide), if_neg (by decide)] at h
      rcases h with h | h
      · cases h
      · simpa [letE] using let_first a ha c u h
/-- the first bytes, and those used, as the reference puts them together -/
def rfiE : Ex → Nat → Bool
  | .set f => f
  | .emp => fNone
  | .cat a b => if shE b < 0 then fNone else if shE a = 0 then fun n => rfiE a n || rfiE b n else rfiE a
  | .alt a b => fun n => rfiE a n || rfiE b n
  | .un _ a => rfiE a
def rusE : Ex → Nat → Bool
  | .set f => f
  | .emp => fNone
  | .cat a b => if shE (.cat a b) < 0 then fNone else fun n => rusE a n || rusE b n
  | .alt a b => fun n => rusE a n || rusE b n
  | .un _ a => rusE a
theorem rfi_eq : ∀ e : Ex, e.ok → ∀ n, n < 256 → (letE e).first n = rfiE e n ∧ (letE e).used n = rusE e n
  | .set f, _, n, _ => ⟨rfl, rfl⟩
  | .emp, _, n, _ => ⟨rfl, rfl⟩
  | .cat a b, ⟨ha, hb⟩, n, hn => by
    have i1 := rfi_eq a ha n hn
    have i2 := rfi_eq b hb n hn
    have s1 := let_some a ha
    have s2 := let_some b hb
    have r1 := sh_range a
    have r2 := sh_range b
    have n1 := (let_null a ha).trans (show nul a = decide (shE a = 0) by
      have := nul_sh a ha
      cases h : nul a <;> simp [h] at this ⊢ <;> exact this)
    have e0 : shE (.cat a b) = if shE a = -1 ∨ shE b = -1 then -1 else shE a + shE b := rfl
    simp only [letE, rfiE, rusE]
    by_cases c1 : shE a = -1
    · have e1 : (letE a).some = false := by rw [Bool.eq_false_iff]; exact fun h => s1.1 h c1
      have i3 := let_none a ha e1 n hn
      rw [if_pos (.inl c1)] at e0
      rw [if_neg (by rw [e1]; simp), if_pos (show shE (.cat a b) < 0 by omega), if_neg (show ¬ shE a = 0 by omega)]
      refine ⟨?_, rfl⟩
      split
      · rfl
      · rw [← i1.1, i3.1]; rfl
    · by_cases c2 : shE b = -1
      · have e2 : (letE b).some = false := by rw [Bool.eq_false_iff]; exact fun h => s2.1 h c2
        rw [if_pos (.inr c2)] at e0
        rw [if_neg (by rw [e2]; simp), if_pos (show shE b < 0 by omega), if_pos (show shE (.cat a b) < 0 by omega)]
        exact ⟨rfl, rfl⟩
      · rw [if_neg (by omega)] at e0
        rw [if_pos ⟨s1.2 c1, s2.2 c2⟩, if_neg (show ¬ shE b < 0 by omega), if_neg (show ¬ shE (.cat a b) < 0 by omega), n1]
        simp only [decide_eq_true_eq]
        refine ⟨?_, by simp only [f2, i1.2, i2.2]⟩
        split
        · simp only [f2, i1.1, i2.1]
        · exact i1.1
  | .alt a b, ⟨ha, hb⟩, n, hn => by
    have i1 := rfi_eq a ha n hn
    have i2 := rfi_eq b hb n hn
    simp only [letE, rfiE, rusE, f2, i1.1, i2.1, i1.2, i2.2, and_self]
  | .un k a, ⟨hk, ha⟩, n, hn => by
    have i1 := rfi_eq a ha n hn
    rcases hk with rfl | rfl | rfl <;> simp [letE, rfiE, rusE, i1]
end Go.Proofs.YtbokhofdgdcpdaaDoor

/- The places of an expression, which follow which, and the words that they lead through: just those that it matches. Of no program. -/
namespace Go.Proofs.YtbokhofdgdcpdaaDoor

/-- how many places -/
def plc : Ex → Nat
  | .set _ => 1
  | .emp => 0
  | .cat a b => plc a + plc b
  | .alt a b => plc a + plc b
  | .un _ a => plc a
def gF : Ex → Nat → Nat → Bool
  | .set _, i => fOne i
  | .emp, _ => fNone
  | .cat a b, i => if nul a = true then f2 (gF a i) (gF b (i + plc a)) else gF a i
  | .alt a b, i => f2 (gF a i) (gF b (i + plc a))
  | .un _ a, i => gF a i
def gL : Ex → Nat → Nat → Bool
  | .set _, i => fOne i
  | .emp, _ => fNone
  | .cat a b, i => if nul b = true then f2 (gL a i) (gL b (i + plc a)) else gL b (i + plc a)
  | .alt a b, i => f2 (gL a i) (gL b (i + plc a))
  | .un _ a, i => gL a i
def gE : Ex → Nat → Nat → Nat → Bool
  | .set _, _, _, _ => false
  | .emp, _, _, _ => false
  | .cat a b, i, p, q => gE a i p q || gE b (i + plc a) p q || (gL a i p && gF b (i + plc a) q)
  | .alt a b, i, p, q => gE a i p q || gE b (i + plc a) p q
  | .un k a, i, p, q => if k = 7 then gE a i p q else gE a i p q || (gL a i p && gF a i q)
def gS : Ex → Nat → Nat → Nat → Bool
  | .set f, i, p, c => decide (p = i) && (f c && decide (c < 256))
  | .emp, _, _, _ => false
  | .cat a b, i, p, c => gS a i p c || gS b (i + plc a) p c
  | .alt a b, i, p, c => gS a i p c || gS b (i + plc a) p c
  | .un _ a, i, p, c => gS a i p c
theorem gF_in : ∀ (e : Ex) (i p : Nat), gF e i p = true → i ≤ p ∧ p < i + plc e
  | .set _, i, p, h => by simp [gF, fOne] at h; simp [plc]; omega
  | .emp, _, _, h => by simp [gF, fNone] at h
  | .cat a b, i, p, h => by
    simp only [plc]
    simp only [gF] at h
    split at h
    · simp only [f2, Bool.or_eq_true] at h
      rcases h with h | h
      · have := gF_in a i p h; omega
      · have := gF_in b _ p h; omega
    · have := gF_in a i p h; omega
  | .alt a b, i, p, h => by
    simp only [plc]
    simp only [gF, f2, Bool.or_eq_true] at h
    rcases h with h | h
    · have := gF_in a i p h; omega
    · have := gF_in b _ p h; omega
  | .un k a, i, p, h => gF_in a i p h
theorem gL_in : ∀ (e : Ex) (i p : Nat), gL e i p = true → i ≤ p ∧ p < i + plc e
  | .set _, i, p, h => by simp [gL, fOne] at h; simp [plc]; omega
  | .emp, _, _, h => by simp [gL, fNone] at h
  | .cat a b, i, p, h => by
    simp only [plc]
    simp only [gL] at h
    split at h
    · simp only [f2, Bool.or_eq_true] at h
      rcases h with h | h
      · have := gL_in a i p h; omega
      · have := gL_in b _ p h; omega
    · have := gL_in b _ p h; omega
  | .alt a b, i, p, h => by
    simp only [plc]
    simp only [gL, f2, Bool.or_eq_true] at h
    rcases h with h | h
    · have := gL_in a i p h; omega
    · have := gL_in b _ p h; omega
  | .un k a, i, p, h => gL_in a i p h
theorem gE_in : ∀ (e : Ex) (i p q : Nat), gE e i p q = true → (i ≤ p ∧ p < i + plc e) ∧ (i ≤ q ∧ q < i + plc e)
  | .set _, _, _, _, h => by simp [gE] at h
  | .emp, _, _, _, h => by simp [gE] at h
  | .cat a b, i, p, q, h => by
    simp only [plc]
    simp only [gE, Bool.or_eq_true, Bool.and_eq_true] at h
    rcases h with (h | h) | ⟨h1, h2⟩
    · have := gE_in a i p q h; omega
    · have := gE_in b _ p q h; omega
    · have h3 := gL_in a i p h1
      have h4 := gF_in b _ q h2
      omega
  | .alt a b, i, p, q, h => by
    simp only [plc]
    simp only [gE, Bool.or_eq_true] at h
    rcases h with h | h
    · have := gE_in a i p q h; omega
    · have := gE_in b _ p q h; omega
  | .un k a, i, p, q, h => by
    simp only [plc]
    simp only [gE] at h
    split at h
    · exact gE_in a i p q h
    · simp only [Bool.or_eq_true, Bool.and_eq_true] at h
      rcases h with h | ⟨h1, h2⟩
      · exact gE_in a i p q h
      · exact ⟨gL_in a i p h1, gF_in a i q h2⟩
theorem gS_in : ∀ (e : Ex) (i p c : Nat), gS e i p c = true → (i ≤ p ∧ p < i + plc e) ∧ c < 256
  | .set f, i, p, c, h => by
    simp only [gS, Bool.and_eq_true, decide_eq_true_eq] at h
    simp only [plc]
    omega
  | .emp, _, _, _, h => by simp [gS] at h
  | .cat a b, i, p, c, h => by
    simp only [plc]
    simp only [gS, Bool.or_eq_true] at h
    rcases h with h | h
    · have := gS_in a i p c h; omega
    · have := gS_in b _ p c h; omega
  | .alt a b, i, p, c, h => by
    simp only [plc]
    simp only [gS, Bool.or_eq_true] at h
    rcases h with h | h
    · have := gS_in a i p c h; omega
    · have := gS_in b _ p c h; omega
  | .un k a, i, p, c, h => gS_in a i p c h

/-- a word leads from a place to a place: the first byte is of the first place -/
inductive Path (S E : Nat → Nat → Bool) : Nat → List Nat → Nat → Prop
  | one {p c : Nat} (h : S p c = true) : Path S E p [c] p
  | more {p c r q : Nat} {u : List Nat} (h : S p c = true) (e : E p r = true) (t : Path S E r u q) : Path S E p (c :: u) q
section
variable {S E S' E' : Nat → Nat → Bool}
theorem Path.mono (hS : ∀ p c, S p c = true → S' p c = true) (hE : ∀ p q, E p q = true → E' p q = true) {p q : Nat} {u : List Nat} (h : Path S E p u q) : Path S' E' p u q := by
  induction h with
  | one h => exact .one (hS _ _ h)
  | more h e t ih => exact .more (hS _ _ h) (hE _ _ e) ih
theorem Path.then {p r s q : Nat} {u v : List Nat} (h : Path S E p u r) (e : E r s = true) (t : Path S E s v q) : Path S E p (u ++ v) q := by
  induction h with
  | one h => exact .more h e t
  | more h e' t' ih => exact .more h e' (ih e)
end
/-- words that a part's places lead through -/
def Led (S E : Nat → Nat → Bool) (F L : Nat → Bool) (u : List Nat) : Prop := ∃ p q, F p = true ∧ Path S E p u q ∧ L q = true
theorem path_ne {S E : Nat → Nat → Bool} {p q : Nat} {u : List Nat} (h : Path S E p u q) : u ≠ [] := by cases h <;> simp
section
variable {a b : Ex} {i : Nat}
def sTwo (a b : Ex) (i p c : Nat) : Bool := gS a i p c || gS b (i + plc a) p c
def eTwo (a b : Ex) (i p q : Nat) : Bool := gE a i p q || gE b (i + plc a) p q
/-- within the second part a word stays there -/
theorem stays {E : Nat → Nat → Bool} (hE : ∀ p q, E p q = true → i + plc a ≤ p → gE b (i + plc a) p q = true) {p q : Nat} {u : List Nat} (h : Path (sTwo a b i) E p u q) : i + plc a ≤ p → Path (gS b (i + plc a)) (gE b (i + plc a)) p u q := by
  have hS : ∀ p c, sTwo a b i p c = true → i + plc a ≤ p → gS b (i + plc a) p c = true := fun p c h hp => by
    simp only [sTwo, Bool.or_eq_true] at h
    rcases h with h | h
    · have := gS_in a i p c h; omega
    · exact h
  induction h with
  | one h => exact fun hp => .one (hS _ _ h hp)
  | more h e t ih =>
    intro hp
    have e' := hE _ _ e hp
    exact .more (hS _ _ h hp) e' (ih (gE_in b _ _ _ e').2.1)
theorem first_S {p c : Nat} (h : sTwo a b i p c = true) (hp : p < i + plc a) : gS a i p c = true := by
  simp only [sTwo, Bool.or_eq_true] at h
  rcases h with h | h
  · exact h
  · have := gS_in b _ p c h; omega
/-- from the first part a word stays there, or goes over once -/
theorem goes_over {p q : Nat} {u : List Nat} (h : Path (sTwo a b i) (gE (.cat a b) i) p u q) : p < i + plc a →
    (Path (gS a i) (gE a i) p u q ∧ q < i + plc a) ∨ ∃ x y r s, u = x ++ y ∧ Path (gS a i) (gE a i) p x r ∧ gL a i r = true ∧ gF b (i + plc a) s = true ∧ Path (gS b (i + plc a)) (gE b (i + plc a)) s y q := by
  have hE : ∀ p q, gE (.cat a b) i p q = true → i + plc a ≤ p → gE b (i + plc a) p q = true := fun p q h hp => by
    simp only [gE, Bool.or_eq_true, Bool.and_eq_true] at h
    rcases h with (h | h) | ⟨h, _⟩
    · have := gE_in a i p q h; omega
    · exact h
    · have := gL_in a i p h; omega
  induction h with
  | one h => exact fun hp => .inl ⟨.one (first_S h hp), hp⟩
  | @more p c r q u h e t ih =>
    intro hp
    have hs := first_S h hp
    have e' := e
    simp only [gE, Bool.or_eq_true, Bool.and_eq_true] at e
    rcases e with (e | e) | ⟨e1, e2⟩
    · rcases ih (gE_in a i _ _ e).2.2 with ⟨h1, h2⟩ | ⟨x, y, r', s, rfl, h1, h2, h3, h4⟩
      · exact .inl ⟨.more hs e h1, h2⟩
      · exact .inr ⟨c :: x, y, r', s, rfl, .more hs e h1, h2, h3, h4⟩
    · have := (gE_in b _ _ _ e).1
      omega
    · exact .inr ⟨[c], u, p, r, rfl, .one hs, e1, e2, stays hE t (gF_in b _ _ e2).1⟩
end
/-- from a place of a part that may be repeated: the first word, and the others -/
theorem again_split {S E : Nat → Nat → Bool} {F L : Nat → Bool} {P : List Nat → Prop} (hP : ∀ u, Led S E F L u → P u) {p q : Nat} {u : List Nat} (h : Path S (fun p q => E p q || (L p && F q)) p u q) (hq : L q = true) :
    ∃ x y r, u = x ++ y ∧ Path S E p x r ∧ L r = true ∧ (y = [] ∨ Many P y) := by
  induction h with
  | @one p c h => exact ⟨[c], [], p, rfl, .one h, hq, .inl rfl⟩
  | @more p c r q u h e t ih =>
    obtain ⟨x, y, s, rfl, h1, h2, h3⟩ := ih hq
    simp only [Bool.or_eq_true, Bool.and_eq_true] at e
    rcases e with e | ⟨e1, e2⟩
    · exact ⟨c :: x, y, s, rfl, .more h e h1, h2, h3⟩
    · refine ⟨[c], x ++ y, p, rfl, .one h, e1, .inr ?_⟩
      have hx : P x := hP x ⟨r, s, e2, h1, h2⟩
      rcases h3 with rfl | h3
      · rw [List.append_nil]; exact .one hx
      · exact .more hx h3
theorem many_led {S E : Nat → Nat → Bool} {F L : Nat → Bool} {P : List Nat → Prop} (hP : ∀ u, u ≠ [] → P u → Led S E F L u) {u : List Nat} (h : Many P u) : u ≠ [] → Led S (fun p q => E p q || (L p && F q)) F L u := by
  have hm : ∀ {p q u}, Path S E p u q → Path S (fun p q => E p q || (L p && F q)) p u q := fun h => h.mono (fun _ _ h => h) fun _ _ h => by simp [h]
  induction h with
  | one h =>
    intro hu
    obtain ⟨p, q, h1, h2, h3⟩ := hP _ hu h
    exact ⟨p, q, h1, hm h2, h3⟩
  | @more x y h t ih =>
    intro hu
    by_cases hx : x = []
    · subst hx
      exact ih hu
    · obtain ⟨p, q, h1, h2, h3⟩ := hP _ hx h
      by_cases hy : y = []
      · subst hy
        rw [List.append_nil]
        exact ⟨p, q, h1, hm h2, h3⟩
      · obtain ⟨p', q', h4, h5, h6⟩ := ih hy
        exact ⟨p, q', h1, (hm h2).then (by simp [h3, h4]) h5, h6⟩
theorem led_un5 {a : Ex} {i : Nat} {k : Int} (hk : k ≠ 7) (u : List Nat) : Led (gS (.un k a) i) (gE (.un k a) i) (gF (.un k a) i) (gL (.un k a) i) u ↔ Led (gS a i) (fun p q => gE a i p q || (gL a i p && gF a i q)) (gF a i) (gL a i) u := by
  have e : gE (.un k a) i = fun p q => gE a i p q || (gL a i p && gF a i q) := by
    funext p q
    simp only [gE]
    rw [if_neg hk]
  have eS : gS (.un k a) i = gS a i := rfl
  rw [e, eS]
  exact Iff.rfl
/-- THE PLACES LEAD THROUGH JUST THE WORDS THAT ARE MATCHED, the empty one aside -/
theorem led_iff : ∀ (e : Ex), e.ok → ∀ (i : Nat) (u : List Nat), u ≠ [] → (Led (gS e i) (gE e i) (gF e i) (gL e i) u ↔ Lang e u)
  | .set f, _, i, u, hu => by
    constructor
    · rintro ⟨p, q, h1, h2, h3⟩
      cases h2 with
      | one h =>
        simp only [gS, Bool.and_eq_true, decide_eq_true_eq] at h
        exact ⟨_, rfl, h.2.2, h.2.1⟩
      | more h e t => simp [gE] at e
    · rintro ⟨c, rfl, hc, hf⟩
      exact ⟨i, i, by simp [gF, fOne], .one (by simp [gS, hc, hf]), by simp [gL, fOne]⟩
  | .emp, _, i, u, hu => by
    constructor
    · rintro ⟨p, q, h1, _⟩
      simp [gF, fNone] at h1
    · exact fun h => absurd h hu
  | .cat a b, ⟨ha, hb⟩, i, u, hu => by
    have hS : gS (.cat a b) i = sTwo a b i := rfl
    have mono1 : ∀ {p q u}, Path (gS a i) (gE a i) p u q → Path (sTwo a b i) (gE (.cat a b) i) p u q := fun h => h.mono (fun _ _ h => by simp [sTwo, h]) fun _ _ h => by simp [gE, h]
    have mono2 : ∀ {p q u}, Path (gS b (i + plc a)) (gE b (i + plc a)) p u q → Path (sTwo a b i) (gE (.cat a b) i) p u q := fun h => h.mono (fun _ _ h => by simp [sTwo, h]) fun _ _ h => by simp [gE, h]
    rw [hS]
    constructor
    · rintro ⟨p, q, h1, h2, h3⟩
      have hF : gF a i p = true ∨ (nul a = true ∧ gF b (i + plc a) p = true) := by
        simp only [gF] at h1
        split at h1
        · simp only [f2, Bool.or_eq_true] at h1
          rename_i hn
          exact h1.imp id fun h => ⟨hn, h⟩
        · exact .inl h1
      have hL : gL b (i + plc a) q = true ∨ (nul b = true ∧ gL a i q = true) := by
        simp only [gL] at h3
        split at h3
        · simp only [f2, Bool.or_eq_true] at h3
          rename_i hn
          exact h3.symm.imp id fun h => ⟨hn, h⟩
        · exact .inl h3
      rcases hF with hF | ⟨hn, hF⟩
      · rcases goes_over h2 (gF_in a i p hF).2 with ⟨h4, h5⟩ | ⟨x, y, r, s, rfl, h4, h5, h6, h7⟩
        · rcases hL with hL | ⟨hn, hL⟩
          · have := gL_in b _ q hL; omega
          · exact ⟨u, [], (List.append_nil u).symm, (led_iff a ha i u hu).1 ⟨p, q, hF, h4, hL⟩, (nul_iff b hb).1 hn⟩
        · have hq : gL b (i + plc a) q = true := by
            rcases hL with hL | ⟨_, hL⟩
            · exact hL
            · exfalso
              have h8 := (gL_in a i q hL).2
              have : i + plc a ≤ q := by
                clear h8 hL h2 h3 hF hu
                have key : ∀ {s y q}, Path (gS b (i + plc a)) (gE b (i + plc a)) s y q → i + plc a ≤ q := fun h => by
                  induction h with
                  | one h => exact (gS_in b _ _ _ h).1.1
                  | more h e t ih => exact ih
                exact key h7
              omega
          exact ⟨x, y, rfl, (led_iff a ha i x (path_ne h4)).1 ⟨p, r, hF, h4, h5⟩, (led_iff b hb _ y (path_ne h7)).1 ⟨s, q, h6, h7, hq⟩⟩
      · have h4 := stays (a := a) (b := b) (i := i) (E := gE (.cat a b) i) (fun p q h hp => by
          simp only [gE, Bool.or_eq_true, Bool.and_eq_true] at h
          rcases h with (h | h) | ⟨h, _⟩
          · have := gE_in a i p q h; omega
          · exact h
          · have := gL_in a i p h; omega) h2 (gF_in b _ p hF).1
        have hq : gL b (i + plc a) q = true := by
          rcases hL with hL | ⟨_, hL⟩
          · exact hL
          · exfalso
            have h8 := (gL_in a i q hL).2
            have key : ∀ {s y q}, Path (gS b (i + plc a)) (gE b (i + plc a)) s y q → i + plc a ≤ q := fun h => by
              induction h with
              | one h => exact (gS_in b _ _ _ h).1.1
              | more h e t ih => exact ih
            have := key h4
            omega
        exact ⟨[], u, rfl, (nul_iff a ha).1 hn, (led_iff b hb _ u hu).1 ⟨p, q, hF, h4, hq⟩⟩
    · rintro ⟨x, y, rfl, h1, h2⟩
      by_cases hx : x = []
      · subst hx
        have hn := (nul_iff a ha).2 h1
        obtain ⟨p, q, g1, g2, g3⟩ := (led_iff b hb (i + plc a) y hu).2 h2
        refine ⟨p, q, ?_, mono2 g2, ?_⟩
        · simp only [gF]
          rw [if_pos hn]
          simp [f2, g1]
        · simp only [gL]
          split
          · simp [f2, g3]
          · exact g3
      · obtain ⟨p, q, g1, g2, g3⟩ := (led_iff a ha i x hx).2 h1
        have hF : gF (.cat a b) i p = true := by
          simp only [gF]
          split
          · simp [f2, g1]
          · exact g1
        by_cases hy : y = []
        · subst hy
          have hn := (nul_iff b hb).2 h2
          rw [List.append_nil]
          refine ⟨p, q, hF, mono1 g2, ?_⟩
          simp only [gL]
          rw [if_pos hn]
          simp [f2, g3]
        · obtain ⟨p', q', g4, g5, g6⟩ := (led_iff b hb (i + plc a) y hy).2 h2
          refine ⟨p, q', hF, (mono1 g2).then (by simp [gE, g3, g4]) (mono2 g5), ?_⟩
          simp only [gL]
          split
          · simp [f2, g6]
          · exact g6
  | .alt a b, ⟨ha, hb⟩, i, u, hu => by
    have hS : gS (.alt a b) i = sTwo a b i := rfl
    have hE : gE (.alt a b) i = eTwo a b i := rfl
    have mono1 : ∀ {p q u}, Path (gS a i) (gE a i) p u q → Path (sTwo a b i) (eTwo a b i) p u q := fun h => h.mono (fun _ _ h => by simp [sTwo, h]) fun _ _ h => by simp [eTwo, h]
    have mono2 : ∀ {p q u}, Path (gS b (i + plc a)) (gE b (i + plc a)) p u q → Path (sTwo a b i) (eTwo a b i) p u q := fun h => h.mono (fun _ _ h => by simp [sTwo, h]) fun _ _ h => by simp [eTwo, h]
    rw [hS, hE]
    simp only [Lang]
    constructor
    · rintro ⟨p, q, h1, h2, h3⟩
      simp only [gF, f2, Bool.or_eq_true] at h1
      simp only [gL, f2, Bool.or_eq_true] at h3
      have inA : ∀ {p q u}, Path (sTwo a b i) (eTwo a b i) p u q → p < i + plc a → Path (gS a i) (gE a i) p u q ∧ q < i + plc a := fun h => by
        induction h with
        | one h => exact fun hp => ⟨.one (first_S h hp), hp⟩
        | more h e t ih =>
          intro hp
          simp only [eTwo, Bool.or_eq_true] at e
          rcases e with e | e
          · obtain ⟨h4, h5⟩ := ih (gE_in a i _ _ e).2.2
            exact ⟨.more (first_S h hp) e h4, h5⟩
          · have := (gE_in b _ _ _ e).1
            omega
      have inB : ∀ {s y q}, Path (gS b (i + plc a)) (gE b (i + plc a)) s y q → i + plc a ≤ q := fun h => by
        induction h with
        | one h => exact (gS_in b _ _ _ h).1.1
        | more h e t ih => exact ih
      rcases h1 with h1 | h1
      · obtain ⟨h4, h5⟩ := inA h2 (gF_in a i p h1).2
        have hq : gL a i q = true := by
          rcases h3 with h | h
          · exact h
          · have := gL_in b _ q h; omega
        exact .inl ((led_iff a ha i u hu).1 ⟨p, q, h1, h4, hq⟩)
      · have h4 := stays (a := a) (b := b) (i := i) (E := eTwo a b i) (fun p q h hp => by
          simp only [eTwo, Bool.or_eq_true] at h
          rcases h with h | h
          · have := gE_in a i p q h; omega
          · exact h) h2 (gF_in b _ p h1).1
        have hq : gL b (i + plc a) q = true := by
          rcases h3 with h | h
          · have h5 := gL_in a i q h
            have h6 := inB h4
            omega
          · exact h
        exact .inr ((led_iff b hb _ u hu).1 ⟨p, q, h1, h4, hq⟩)
    · rintro (h | h)
      · obtain ⟨p, q, g1, g2, g3⟩ := (led_iff a ha i u hu).2 h
        exact ⟨p, q, by simp [gF, f2, g1], mono1 g2, by simp [gL, f2, g3]⟩
      · obtain ⟨p, q, g1, g2, g3⟩ := (led_iff b hb (i + plc a) u hu).2 h
        exact ⟨p, q, by simp [gF, f2, g1], mono2 g2, by simp [gL, f2, g3]⟩
  | .un k a, ⟨hk, ha⟩, i, u, hu => by
    have many : Led (gS a i) (fun p q => gE a i p q || (gL a i p && gF a i q)) (gF a i) (gL a i) u ↔ Many (Lang a) u := by
      constructor
      · rintro ⟨p, q, h1, h2, h3⟩
        obtain ⟨x, y, r, rfl, h4, h5, h6⟩ := again_split (P := Lang a) (fun v hv => by
          obtain ⟨p', q', g1, g2, g3⟩ := hv
          exact (led_iff a ha i v (path_ne g2)).1 ⟨p', q', g1, g2, g3⟩) h2 h3
        have hx := (led_iff a ha i x (path_ne h4)).1 ⟨p, r, h1, h4, h5⟩
        rcases h6 with rfl | h6
        · rw [List.append_nil]; exact .one hx
        · exact .more hx h6
      · exact fun h => many_led (fun v hv h => (led_iff a ha i v hv).2 h) h hu
    rcases hk with rfl | rfl | rfl
    · rw [led_un5 (by decide), many]
      simp [Lang, hu]
    · rw [led_un5 (by decide), many]
      simp [Lang]
    · have e : gE (.un 7 a) i = gE a i := by
        funext p q
        simp [gE]
      have eS : gS (.un 7 a) i = gS a i := rfl
      have eF : gF (.un 7 a) i = gF a i := rfl
      have eL : gL (.un 7 a) i = gL a i := rfl
      rw [e, eS, eF, eL, led_iff a ha i u hu]
      simp [Lang, hu]
end Go.Proofs.YtbokhofdgdcpdaaDoor

/- Reading a word by sets of open places: where words end; a list of trees with one net of places. Of no program. -/
namespace Go.Proofs.YtbokhofdgdcpdaaDoor

section
variable (S E : Nat → Nat → Bool) (L : Nat → Bool)
def after (O : Nat → Bool) (c q : Nat) : Bool := (List.range 256).any fun p => O p && (S p c && E p q)
def ended (O : Nat → Bool) (c : Nat) : Bool := (List.range 256).any fun p => O p && (S p c && L p)
def scan : (Nat → Bool) → List Nat → Nat → List Nat
  | _, [], _ => []
  | O, c :: u, i => if noneF O = true then [] else (if ended S L O c = true then [i + 1] else []) ++ scan (after S E O c) u (i + 1)
def endB : (Nat → Bool) → List Nat → Bool
  | _, [] => false
  | O, [c] => ended S L O c
  | O, c :: u => endB (after S E O c) u
end
section
variable {S E : Nat → Nat → Bool} {L : Nat → Bool}
theorem endB_more (O : Nat → Bool) (c : Nat) {u : List Nat} (h : u ≠ []) : endB S E L O (c :: u) = endB S E L (after S E O c) u := by
  cases u with
  | nil => exact absurd rfl h
  | cons d u => rfl
theorem endB_iff (hS : ∀ p c, S p c = true → p < 256) : ∀ (u : List Nat) (O : Nat → Bool), endB S E L O u = true ↔ Led S E O L u
  | [], O => by
    constructor
    · intro h; cases h
    · rintro ⟨p, q, _, h, _⟩; exact absurd rfl (path_ne h)
  | [c], O => by
    simp only [endB, ended, List.any_eq_true, List.mem_range, Bool.and_eq_true]
    constructor
    · rintro ⟨p, hp, h1, h2, h3⟩
      exact ⟨p, p, h1, .one h2, h3⟩
    · rintro ⟨p, q, h1, h2, h3⟩
      cases h2 with
      | one h => exact ⟨p, hS _ _ h, h1, h, h3⟩
      | more h e t => exact absurd rfl (path_ne t)
  | c :: d :: u, O => by
    rw [endB_more O c (by simp), endB_iff hS (d :: u) (after S E O c)]
    constructor
    · rintro ⟨r, q, h1, h2, h3⟩
      simp only [after, List.any_eq_true, List.mem_range, Bool.and_eq_true] at h1
      obtain ⟨p, hp, h4, h5, h6⟩ := h1
      exact ⟨p, q, h4, .more h5 h6 h2, h3⟩
    · rintro ⟨p, q, h1, h2, h3⟩
      cases h2 with
      | more h e t => exact ⟨_, q, by simp only [after, List.any_eq_true, List.mem_range, Bool.and_eq_true]; exact ⟨p, hS _ _ h, h1, h, e⟩, t, h3⟩
theorem endB_none (hS : ∀ p c, S p c = true → p < 256) {O : Nat → Bool} (h : noneF O = true) (u : List Nat) : endB S E L O u = false := by
  rw [Bool.eq_false_iff]
  intro hc
  obtain ⟨p, q, h1, h2, _⟩ := (endB_iff hS u O).1 hc
  have hp : p < 256 := by
    cases h2 with
    | one h => exact hS _ _ h
    | more h e t => exact hS _ _ h
  rw [(noneF_iff O).1 h p hp] at h1
  cases h1
theorem scan_eq (hS : ∀ p c, S p c = true → p < 256) : ∀ (u : List Nat) (O : Nat → Bool) (i : Nat), scan S E L O u i = ((List.range u.length).filter fun k => endB S E L O (u.take (k + 1))).map fun k => i + k + 1
  | [], O, i => rfl
  | c :: u, O, i => by
    by_cases hn : noneF O = true
    · simp only [scan]
      rw [if_pos hn, List.filter_eq_nil_iff.2 (fun k _ => by rw [endB_none hS hn]; simp)]
      rfl
    · simp only [scan]
      rw [if_neg hn, scan_eq hS u, List.length_cons, List.range_succ_eq_map, List.filter_cons, List.filter_map, Function.comp_def]
      have h0 : endB S E L O ((c :: u).take (0 + 1)) = ended S L O c := by simp [endB]
      have h1 : ((List.range u.length).filter fun k => endB S E L O ((c :: u).take (k.succ + 1))) = (List.range u.length).filter fun k => endB S E L (after S E O c) (u.take (k + 1)) := by
        refine List.filter_congr fun k hk => ?_
        have hk' := List.mem_range.1 hk
        rw [List.take_succ_cons, endB_more]
        intro h
        have := congrArg List.length h
        simp only [List.length_take, List.length_nil] at this
        omega
      rw [h0, h1]
      split
      · simp only [List.map_cons, List.map_map, List.cons_append, List.nil_append, Nat.add_zero, List.cons.injEq, true_and]
        refine List.map_congr_left fun k _ => ?_
        simp only [Function.comp]
        omega
      · simp only [List.map_map, List.nil_append]
        refine List.map_congr_left fun k _ => ?_
        simp only [Function.comp]
        omega
end

/-! ### where words end -/
def sub (W : List Nat) (p q : Nat) : List Nat := (W.take q).drop p
open Classical in
noncomputable def lgB (e : Ex) (W : List Nat) (p q : Nat) : Bool := decide (p ≤ q ∧ q ≤ W.length ∧ Lang e (sub W p q))
theorem lgB_iff {e : Ex} {W : List Nat} {p q : Nat} : lgB e W p q = true ↔ p ≤ q ∧ q ≤ W.length ∧ Lang e (sub W p q) := by simp [lgB]
/-- the ends as the program finds them -/
def endsE (e : Ex) (W : List Nat) (a : Nat) : List Nat := (if nul e = true then [a] else []) ++ scan (gS e 0) (gE e 0) (gL e 0) (gF e 0) (W.drop a) a
theorem sub_self (W : List Nat) (p : Nat) : sub W p p = [] := by
  unfold sub
  rw [List.drop_eq_nil_iff]
  simp
  omega
theorem sub_more (W : List Nat) (a k : Nat) : sub W a (a + k + 1) = (W.drop a).take (k + 1) := by
  unfold sub
  rw [List.drop_take]
  congr 1
  omega
theorem endsE_eq {e : Ex} (he : e.ok) (hp : plc e ≤ 256) {W : List Nat} {a : Nat} (ha : a ≤ W.length) : endsE e W a = (List.range (W.length + 1)).filter (lgB e W a) := by
  have hS : ∀ p c, gS e 0 p c = true → p < 256 := fun p c h => by
    have := gS_in e 0 p c h
    omega
  obtain ⟨m, hm⟩ : ∃ m, W.length = a + m := ⟨W.length - a, by omega⟩
  have hl : (W.drop a).length = m := by rw [List.length_drop]; omega
  have hz : (List.range a).filter (lgB e W a) = [] := List.filter_eq_nil_iff.2 fun q hq => by
    have := List.mem_range.1 hq
    rw [lgB_iff]
    omega
  unfold endsE
  rw [scan_eq hS, hl, hm, Nat.add_assoc, List.range_add, List.filter_append, hz, List.nil_append, List.range_succ_eq_map, List.map_cons, List.filter_cons, Nat.add_zero]
  have h0 : (lgB e W a a = true) = (nul e = true) := by
    rw [lgB_iff, sub_self, nul_iff e he]
    simp [ha]
  have hr : ((List.range m).filter fun k => endB (gS e 0) (gE e 0) (gL e 0) (gF e 0) ((W.drop a).take (k + 1))).map (fun k => a + k + 1) = (((List.range m).map Nat.succ).map fun x => a + x).filter (lgB e W a) := by
    rw [List.map_map, List.filter_map]
    have : ((List.range m).filter (lgB e W a ∘ ((fun x => a + x) ∘ Nat.succ))) = (List.range m).filter fun k => endB (gS e 0) (gE e 0) (gL e 0) (gF e 0) ((W.drop a).take (k + 1)) := by
      refine List.filter_congr fun k hk => ?_
      have hk' := List.mem_range.1 hk
      rw [Bool.eq_iff_iff, Function.comp, Function.comp, lgB_iff, show a + k.succ = a + k + 1 by omega, sub_more, endB_iff hS, led_iff e he 0 _ (by
        intro h
        have := congrArg List.length h
        simp only [List.length_take, List.length_nil, hl] at this
        omega)]
      constructor
      · exact fun h => h.2.2
      · exact fun h => ⟨by omega, by omega, h⟩
    rw [this]
    refine List.map_congr_left fun k _ => ?_
    simp only [Function.comp]
    omega
  rw [hr]
  by_cases hn : nul e = true
  · rw [if_pos hn, if_pos (h0 ▸ hn)]
    rfl
  · rw [if_neg hn, if_neg (h0 ▸ hn)]
    rfl
/-- is the last end the word's? -/
def lastIs (l : List Nat) (n : Nat) : Bool := match l.getLast? with
  | none => false
  | some q => q == n
theorem lastIs_iff {e : Ex} {W : List Nat} {a : Nat} : lastIs ((List.range (W.length + 1)).filter (lgB e W a)) W.length = lgB e W a W.length := by
  rw [List.range_succ, List.filter_append]
  by_cases h : lgB e W a W.length = true
  · rw [List.filter_cons, if_pos h, h]
    simp [lastIs]
  · rw [List.filter_cons, if_neg h]
    have h' : lgB e W a W.length = false := by simpa using h
    rw [h']
    simp only [List.filter_nil, List.append_nil, lastIs]
    split
    · rfl
    · rename_i q hq
      have := List.mem_range.1 (List.mem_filter.1 (List.mem_of_getLast? hq)).1
      simp
      omega
theorem sub_all (W : List Nat) : sub W 0 W.length = W := by simp [sub]
theorem says_iff {e : Ex} {W : List Nat} : lgB e W 0 W.length = true ↔ Lang e W := by
  rw [lgB_iff, sub_all]
  simp

/-! ### trees side by side in one net -/
def plcs : List Ex → Nat
  | [] => 0
  | t :: r => plc t + plcs r
def setsE : Ex → List (Nat → Bool)
  | .set f => [f]
  | .emp => []
  | .cat a b => setsE a ++ setsE b
  | .alt a b => setsE a ++ setsE b
  | .un _ a => setsE a
theorem setsE_len : ∀ e : Ex, (setsE e).length = plc e
  | .set _ => rfl
  | .emp => rfl
  | .cat a b => by simp [setsE, plc, setsE_len a, setsE_len b]
  | .alt a b => by simp [setsE, plc, setsE_len a, setsE_len b]
  | .un _ a => by simp [setsE, plc, setsE_len a]
def fSets (es : List Ex) : List (Nat → Bool) := es.flatMap setsE
def fE : List Ex → Nat → Nat → Nat → Bool
  | [], _, _, _ => false
  | t :: r, i, p, q => gE t i p q || fE r (i + plc t) p q
structure Rch where
  null : Bool
  first : Nat → Bool
  last : Nat → Bool
def rch (e : Ex) (i : Nat) : Rch := ⟨nul e, gF e i, gL e i⟩
def fRe : List Ex → Nat → List Rch
  | [], _ => []
  | t :: r, i => rch t i :: fRe r (i + plc t)
theorem plcs_append : ∀ a b, plcs (a ++ b) = plcs a + plcs b
  | [], b => by simp [plcs]
  | t :: r, b => by simp [plcs, plcs_append r b]; omega
theorem fSets_len : ∀ es, (fSets es).length = plcs es
  | [] => rfl
  | t :: r => by
    have := fSets_len r
    simp only [fSets, List.flatMap_cons, List.length_append, setsE_len, plcs] at this ⊢
    rw [this]
theorem fSets_append (a b : List Ex) : fSets (a ++ b) = fSets a ++ fSets b := by simp [fSets]
theorem fE_append : ∀ (a b : List Ex) (i p q : Nat), fE (a ++ b) i p q = (fE a i p q || fE b (i + plcs a) p q)
  | [], b, i, p, q => by simp [fE, plcs]
  | t :: r, b, i, p, q => by
    simp only [List.cons_append, fE, plcs, fE_append r b, Bool.or_assoc]
    rw [show i + plc t + plcs r = i + (plc t + plcs r) by omega]
theorem fRe_append : ∀ (a b : List Ex) (i : Nat), fRe (a ++ b) i = fRe a i ++ fRe b (i + plcs a)
  | [], b, i => by simp [fRe, plcs]
  | t :: r, b, i => by
    simp only [List.cons_append, fRe, plcs, fRe_append r b]
    rw [show i + plc t + plcs r = i + (plc t + plcs r) by omega]
theorem fE_in : ∀ (es : List Ex) (i p q : Nat), fE es i p q = true → (i ≤ p ∧ p < i + plcs es) ∧ (i ≤ q ∧ q < i + plcs es)
  | [], i, p, q, h => by simp [fE] at h
  | t :: r, i, p, q, h => by
    simp only [fE, Bool.or_eq_true] at h
    simp only [plcs]
    rcases h with h | h
    · have := gE_in t i p q h; omega
    · have := fE_in r _ p q h; omega
/-- the sets of the places -/
theorem gS_sets : ∀ (e : Ex) (i p c : Nat), gS e i p c = (decide (i ≤ p) && ((setsE e).getD (p - i) fNone c && decide (c < 256)))
  | .set f, i, p, c => by
    simp only [gS, setsE]
    by_cases h : p = i
    · subst h; simp
    · by_cases h2 : i ≤ p
      · have : (p - i) = (p - i - 1) + 1 := by omega
        rw [this]
        simp [h, fNone]
      · simp [h, h2]
  | .emp, i, p, c => by simp [gS, setsE, fNone]
  | .cat a b, i, p, c => by
    have h1 := gS_sets a i p c
    have h2 := gS_sets b (i + plc a) p c
    have hl := setsE_len a
    simp only [gS, setsE, h1, h2, List.getD_eq_getElem?_getD]
    by_cases h3 : i + plc a ≤ p
    · rw [List.getElem?_append_right (by omega), List.getElem?_eq_none (l := setsE a) (by omega), hl, show p - i - plc a = p - (i + plc a) by omega]
      simp [h3, show i ≤ p by omega, fNone]
    · by_cases h4 : i ≤ p
      · rw [List.getElem?_append_left (by omega)]
        simp [h3, h4]
      · simp [h3, h4]
  | .alt a b, i, p, c => by
    have h1 := gS_sets a i p c
    have h2 := gS_sets b (i + plc a) p c
    have hl := setsE_len a
    simp only [gS, setsE, h1, h2, List.getD_eq_getElem?_getD]
    by_cases h3 : i + plc a ≤ p
    · rw [List.getElem?_append_right (by omega), List.getElem?_eq_none (l := setsE a) (by omega), hl, show p - i - plc a = p - (i + plc a) by omega]
      simp [h3, show i ≤ p by omega, fNone]
    · by_cases h4 : i ≤ p
      · rw [List.getElem?_append_left (by omega)]
        simp [h3, h4]
      · simp [h3, h4]
  | .un k a, i, p, c => gS_sets a i p c
theorem plc_ops : ∀ e : Ex, 2 * plc e ≤ (ops e).length + 1
  | .set _ => by simp [plc, ops]
  | .emp => by simp [plc]
  | .cat a b => by
    have := plc_ops a
    have := plc_ops b
    simp only [plc, ops, List.length_append, List.length_cons, List.length_nil]
    omega
  | .alt a b => by
    have := plc_ops a
    have := plc_ops b
    simp only [plc, ops, List.length_append, List.length_cons, List.length_nil]
    omega
  | .un k a => by
    have := plc_ops a
    simp only [plc, ops, List.length_append, List.length_cons, List.length_nil]
    omega
theorem plcs_ops : ∀ es : List Ex, plcs es ≤ (es.flatMap ops).length
  | [] => by simp [plcs]
  | t :: r => by
    have h1 := plc_ops t
    have h2 := plcs_ops r
    have h3 : 1 ≤ (ops t).length := by cases t <;> simp only [ops, List.length_append, List.length_cons, List.length_nil] <;> omega
    simp only [plcs, List.flatMap_cons, List.length_append]
    omega
end Go.Proofs.YtbokhofdgdcpdaaDoor
