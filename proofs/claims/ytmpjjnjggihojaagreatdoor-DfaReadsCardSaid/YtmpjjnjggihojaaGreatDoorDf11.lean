/- SpMeet, FaGlu, FaRun, SpMath, put together. -/
import Derived.Test.YtmpjjnjggihojaaGreatDoorDf10
import Derived.Test.YtmpjjnjggihojaaGreatDoorDf07
/- What is done for spots that stand one behind the other: nothing (whole), or a set that grows (Follow); contracts of chain and repeat, whatever is done. -/
namespace Go.Proofs.YtmpjjnjggihojaaGreatDoor
open Go.RowKit Go.Lib Go.Joins

section
variable {w w' w'' : World} {row : Option Nat}
end
/-- the set of Follow, behind one such call -/
def folG (i : Int) (G : Nat → Bool) (a b : Prt) : Nat → Bool := bif hasS a.last i then fOr G b.first else G
attribute [local go_sem] evalR_tmp evalR_const evalR_global evalR_func
end Go.Proofs.YtmpjjnjggihojaaGreatDoor

/- The places of an expression, which follow which, and the words that they lead through: just those that it matches. Of no program. -/
namespace Go.Proofs.YtmpjjnjggihojaaGreatDoor

/-- how many places -/
def plc : Ex → Nat
  | .set _ => 1
  | .emp => 0
  | .cat a b => plc a + plc b
  | .alt a b => plc a + plc b
  | .un _ a => plc a
def gF : Ex → Nat → Nat → Bool
  | .set _, i => fOne i
  | .emp, _ => fNone
  | .cat a b, i => if nul a = true then f2 (gF a i) (gF b (i + plc a)) else gF a i
  | .alt a b, i => f2 (gF a i) (gF b (i + plc a))
  | .un _ a, i => gF a i
def gL : Ex → Nat → Nat → Bool
  | .set _, i => fOne i
  | .emp, _ => fNone
  | .cat a b, i => if nul b = true then f2 (gL a i) (gL b (i + plc a)) else gL b (i + plc a)
  | .alt a b, i => f2 (gL a i) (gL b (i + plc a))
  | .un _ a, i => gL a i
def gE : Ex → Nat → Nat → Nat → Bool
  | .set _, _, _, _ => false
  | .emp, _, _, _ => false
  | .cat a b, i, p, q => gE a i p q || gE b (i + plc a) p q || (gL a i p && gF b (i + plc a) q)
  | .alt a b, i, p, q => gE a i p q || gE b (i + plc a) p q
  | .un k a, i, p, q => if k = 7 then gE a i p q else gE a i p q || (gL a i p && gF a i q)
def gS : Ex → Nat → Nat → Nat → Bool
  | .set f, i, p, c => decide (p = i) && (f c && decide (c < 256))
  | .emp, _, _, _ => false
  | .cat a b, i, p, c => gS a i p c || gS b (i + plc a) p c
  | .alt a b, i, p, c => gS a i p c || gS b (i + plc a) p c
  | .un _ a, i, p, c => gS a i p c
theorem gF_in : ∀ (e : Ex) (i p : Nat), gF e i p = true → i ≤ p ∧ p < i + plc e
  | .set _, i, p, h => by simp [gF, fOne] at h; simp [plc]; omega
  | .emp, _, _, h => by simp [gF, fNone] at h
  | .cat a b, i, p, h => by
    simp only [plc]
    simp only [gF] at h
    split at h
    · simp only [f2, Bool.or_eq_true] at h
      rcases h with h | h
      · have := gF_in a i p h; omega
      · have := gF_in b _ p h; omega
    · have := gF_in a i p h; omega
  | .alt a b, i, p, h => by
    simp only [plc]
    simp only [gF, f2, Bool.or_eq_true] at h
    rcases h with h | h
    · have := gF_in a i p h; omega
    · have := gF_in b _ p h; omega
  | .un k a, i, p, h => gF_in a i p h
theorem gL_in : ∀ (e : Ex) (i p : Nat), gL e i p = true → i ≤ p ∧ p < i + plc e
  | .set _, i, p, h => by simp [gL, fOne] at h; simp [plc]; omega
  | .emp, _, _, h => by simp [gL, fNone] at h
  | .cat a b, i, p, h => by
    simp only [plc]
    simp only [gL] at h
    split at h
    · simp only [f2, Bool.or_eq_true] at h
      rcases h with h | h
      · have := gL_in a i p h; omega
      · have := gL_in b _ p h; omega
    · have := gL_in b _ p h; omega
  | .alt a b, i, p, h => by
    simp only [plc]
    simp only [gL, f2, Bool.or_eq_true] at h
    rcases h with h | h
    · have := gL_in a i p h; omega
    · have := gL_in b _ p h; omega
  | .un k a, i, p, h => gL_in a i p h
theorem gE_in : ∀ (e : Ex) (i p q : Nat), gE e i p q = true → (i ≤ p ∧ p < i + plc e) ∧ (i ≤ q ∧ q < i + plc e)
  | .set _, _, _, _, h => by simp [gE] at h
  | .emp, _, _, _, h => by simp [gE] at h
  | .cat a b, i, p, q, h => by
    simp only [plc]
    simp only [gE, Bool.or_eq_true, Bool.and_eq_true] at h
    rcases h with (h | h) | ⟨h1, h2⟩
    · have := gE_in a i p q h; omega
    · have := gE_in b _ p q h; omega
    · have h3 := gL_in a i p h1
      have h4 := gF_in b _ q h2
      omega
  | .alt a b, i, p, q, h => by
    simp only [plc]
    simp only [gE, Bool.or_eq_true] at h
    rcases h with h | h
    · have := gE_in a i p q h; omega
    · have := gE_in b _ p q h; omega
  | .un k a, i, p, q, h => by
    simp only [plc]
    simp only [gE] at h
    split at h
    · exact gE_in a i p q h
    · simp only [Bool.or_eq_true, Bool.and_eq_true] at h
      rcases h with h | ⟨h1, h2⟩
      · exact gE_in a i p q h
      · exact ⟨gL_in a i p h1, gF_in a i q h2⟩
theorem gS_in : ∀ (e : Ex) (i p c : Nat), gS e i p c = true → (i ≤ p ∧ p < i + plc e) ∧ c < 256
  | .set f, i, p, c, h => by
    simp only [gS, Bool.and_eq_true, decide_eq_true_eq] at h
    simp only [plc]
    omega
  | .emp, _, _, _, h => by simp [gS] at h
  | .cat a b, i, p, c, h => by
    simp only [plc]
    simp only [gS, Bool.or_eq_true] at h
    rcases h with h | h
    · have := gS_in a i p c h; omega
    · have := gS_in b _ p c h; omega
  | .alt a b, i, p, c, h => by
    simp only [plc]
    simp only [gS, Bool.or_eq_true] at h
    rcases h with h | h
    · have := gS_in a i p c h; omega
    · have := gS_in b _ p c h; omega
  | .un k a, i, p, c, h => gS_in a i p c h

/-- a word leads from a place to a place: the first byte is of the first place -/
inductive Path (S E : Nat → Nat → Bool) : Nat → List Nat → Nat → Prop
  | one {p c : Nat} (h : S p c = true) : Path S E p [c] p
  | more {p c r q : Nat} {u : List Nat} (h : S p c = true) (e : E p r = true) (t : Path S E r u q) : Path S E p (c :: u) q
section
variable {S E S' E' : Nat → Nat → Bool}
theorem Path.mono (hS : ∀ p c, S p c = true → S' p c = true) (hE : ∀ p q, E p q = true → E' p q = true) {p q : Nat} {u : List Nat} (h : Path S E p u q) : Path S' E' p u q := by
  induction h with
  | one h => exact .one (hS _ _ h)
  | more h e t ih => exact .more (hS _ _ h) (hE _ _ e) ih
theorem Path.then {p r s q : Nat} {u v : List Nat} (h : Path S E p u r) (e : E r s = true) (t : Path S E s v q) : Path S E p (u ++ v) q := by
  induction h with
  | one h => exact .more h e t
  | more h e' t' ih => exact .more h e' (ih e)
end
/-- words that a part's places lead through -/
def Led (S E : Nat → Nat → Bool) (F L : Nat → Bool) (u : List Nat) : Prop := ∃ p q, F p = true ∧ Path S E p u q ∧ L q = true
theorem path_ne {S E : Nat → Nat → Bool} {p q : Nat} {u : List Nat} (h : Path S E p u q) : u ≠ [] := by cases h <;> simp
section
variable {a b : Ex} {i : Nat}
def sTwo (a b : Ex) (i p c : Nat) : Bool := gS a i p c || gS b (i + plc a) p c
def eTwo (a b : Ex) (i p q : Nat) : Bool := gE a i p q || gE b (i + plc a) p q
/-- within the second part a word stays there -/
theorem stays {E : Nat → Nat → Bool} (hE : ∀ p q, E p q = true → i + plc a ≤ p → gE b (i + plc a) p q = true) {p q : Nat} {u : List Nat} (h : Path (sTwo a b i) E p u q) : i + plc a ≤ p → Path (gS b (i + plc a)) (gE b (i + plc a)) p u q := by
  have hS : ∀ p c, sTwo a b i p c = true → i + plc a ≤ p → gS b (i + plc a) p c = true := fun p c h hp => by
    simp only [sTwo, Bool.or_eq_true] at h
    rcases h with h | h
    · have := gS_in a i p c h; omega
    · exact h
  induction h with
  | one h => exact fun hp => .one (hS _ _ h hp)
  | more h e t ih =>
    intro hp
    have e' := hE _ _ e hp
    exact .more (hS _ _ h hp) e' (ih (gE_in b _ _ _ e').2.1)
theorem first_S {p c : Nat} (h : sTwo a b i p c = true) (hp : p < i + plc a) : gS a i p c = true := by
  simp only [sTwo, Bool.or_eq_true] at h
  rcases h with h | h
  · exact h
  · have := gS_in b _ p c h; omega
/-- from the first part a word stays there, or goes over once -/
theorem goes_over {p q : Nat} {u : List Nat} (h : Path (sTwo a b i) (gE (.cat a b) i) p u q) : p < i + plc a →
    (Path (gS a i) (gE a i) p u q ∧ q < i + plc a) ∨ ∃ x y r s, u = x ++ y ∧ Path (gS a i) (gE a i) p x r ∧ gL a i r = true ∧ gF b (i + plc a) s = true ∧ Path (gS b (i + plc a)) (gE b (i + plc a)) s y q := by
  have hE : ∀ p q, gE (.cat a b) i p q = true → i + plc a ≤ p → gE b (i + plc a) p q = true := fun p q h hp => by
    simp only [gE, Bool.or_eq_true, Bool.and_eq_true] at h
    rcases h with (h | h) | ⟨h, _⟩
    · have := gE_in a i p q h; omega
    · exact h
    · have := gL_in a i p h; omega
  induction h with
  | one h => exact fun hp => .inl ⟨.one (first_S h hp), hp⟩
  | @more p c r q u h e t ih =>
    intro hp
    have hs := first_S h hp
    have e' := e
    simp only [gE, Bool.or_eq_true, Bool.and_eq_true] at e
    rcases e with (e | e) | ⟨e1, e2⟩
    · rcases ih (gE_in a i _ _ e).2.2 with ⟨h1, h2⟩ | ⟨x, y, r', s, rfl, h1, h2, h3, h4⟩
      · exact .inl ⟨.more hs e h1, h2⟩
      · exact .inr ⟨c :: x, y, r', s, rfl, .more hs e h1, h2, h3, h4⟩
    · have := (gE_in b _ _ _ e).1
      omega
    · exact .inr ⟨[c], u, p, r, rfl, .one hs, e1, e2, stays hE t (gF_in b _ _ e2).1⟩
end
/-- from a place of a part that may be repeated: the first word, and the others -/
theorem again_split {S E : Nat → Nat → Bool} {F L : Nat → Bool} {P : List Nat → Prop} (hP : ∀ u, Led S E F L u → P u) {p q : Nat} {u : List Nat} (h : Path S (fun p q => E p q || (L p && F q)) p u q) (hq : L q = true) :
    ∃ x y r, u = x ++ y ∧ Path S E p x r ∧ L r = true ∧ (y = [] ∨ Many P y) := by
  induction h with
  | @one p c h => exact ⟨[c], [], p, rfl, .one h, hq, .inl rfl⟩
  | @more p c r q u h e t ih =>
    obtain ⟨x, y, s, rfl, h1, h2, h3⟩ := ih hq
    simp only [Bool.or_eq_true, Bool.and_eq_true] at e
    rcases e with e | ⟨e1, e2⟩
    · exact ⟨c :: x, y, s, rfl, .more h e h1, h2, h3⟩
    · refine ⟨[c], x ++ y, p, rfl, .one h, e1, .inr ?_⟩
      have hx : P x := hP x ⟨r, s, e2, h1, h2⟩
      rcases h3 with rfl | h3
      · rw [List.append_nil]; exact .one hx
      · exact .more hx h3
theorem many_led {S E : Nat → Nat → Bool} {F L : Nat → Bool} {P : List Nat → Prop} (hP : ∀ u, u ≠ [] → P u → Led S E F L u) {u : List Nat} (h : Many P u) : u ≠ [] → Led S (fun p q => E p q || (L p && F q)) F L u := by
  have hm : ∀ {p q u}, Path S E p u q → Path S (fun p q => E p q || (L p && F q)) p u q := fun h => h.mono (fun _ _ h => h) fun _ _ h => by simp [h]
  induction h with
  | one h =>
    intro hu
    obtain ⟨p, q, h1, h2, h3⟩ := hP _ hu h
    exact ⟨p, q, h1, hm h2, h3⟩
  | @more x y h t ih =>
    intro hu
    by_cases hx : x = []
    · subst hx
      exact ih hu
    · obtain ⟨p, q, h1, h2, h3⟩ := hP _ hx h
      by_cases hy : y = []
      · subst hy
        rw [List.append_nil]
        exact ⟨p, q, h1, hm h2, h3⟩
      · obtain ⟨p', q', h4, h5, h6⟩ := ih hy
        exact ⟨p, q', h1, (hm h2).then (by simp [h3, h4]) h5, h6⟩
theorem led_un5 {a : Ex} {i : Nat} {k : Int} (hk : k ≠ 7) (u : List Nat) : Led (gS (.un k a) i) (gE (.un k a) i) (gF (.un k a) i) (gL (.un k a) i) u ↔ Led (gS a i) (fun p q => gE a i p q || (gL a i p && gF a i q)) (gF a i) (gL a i) u := by
  have e : gE (.un k a) i = fun p q => gE a i p q || (gL a i p && gF a i q) := by
    funext p q
    simp only [gE]
    rw [if_neg hk]
  have eS : gS (.un k a) i = gS a i := rfl
  rw [e, eS]
  exact Iff.rfl
/-- THE PLACES LEAD THROUGH JUST THE WORDS THAT ARE MATCHED, the empty one aside -/
theorem led_iff : ∀ (e : Ex), e.ok → ∀ (i : Nat) (u : List Nat), u ≠ [] → (Led (gS e i) (gE e i) (gF e i) (gL e i) u ↔ Lang e u)
  | .set f, _, i, u, hu => by
    constructor
    · rintro ⟨p, q, h1, h2, h3⟩
      cases h2 with
      | one h =>
        simp only [gS, Bool.and_eq_true, decide_eq_true_eq] at h
        exact ⟨_, rfl, h.2.2, h.2.1⟩
      | more h e t => simp [gE] at e
    · rintro ⟨c, rfl, hc, hf⟩
      exact ⟨i, i, by simp [gF, fOne], .one (by simp [gS, hc, hf]), by simp [gL, fOne]⟩
  | .emp, _, i, u, hu => by
    constructor
    · rintro ⟨p, q, h1, _⟩
      simp [gF, fNone] at h1
    · exact fun h => absurd h hu
  | .cat a b, ⟨ha, hb⟩, i, u, hu => by
    have hS : gS (.cat a b) i = sTwo a b i := rfl
    have mono1 : ∀ {p q u}, Path (gS a i) (gE a i) p u q → Path (sTwo a b i) (gE (.cat a b) i) p u q := fun h => h.mono (fun _ _ h => by simp [sTwo, h]) fun _ _ h => by simp [gE, h]
    have mono2 : ∀ {p q u}, Path (gS b (i + plc a)) (gE b (i + plc a)) p u q → Path (sTwo a b i) (gE (.cat a b) i) p u q := fun h => h.mono (fun _ _ h => by simp [sTwo, h]) fun _ _ h => by simp [gE, h]
    rw [hS]
    constructor
    · rintro ⟨p, q, h1, h2, h3⟩
      have hF : gF a i p = true ∨ (nul a = true ∧ gF b (i + plc a) p = true) := by
        simp only [gF] at h1
        split at h1
        · simp only [f2, Bool.or_eq_true] at h1
          rename_i hn
          exact h1.imp id fun h => ⟨hn, h⟩
        · exact .inl h1
      have hL : gL b (i + plc a) q = true ∨ (nul b = true ∧ gL a i q = true) := by
        simp only [gL] at h3
        split at h3
        · simp only [f2, Bool.or_eq_true] at h3
          rename_i hn
          exact h3.symm.imp id fun h => ⟨hn, h⟩
        · exact .inl h3
      rcases hF with hF | ⟨hn, hF⟩
      · rcases goes_over h2 (gF_in a i p hF).2 with ⟨h4, h5⟩ | ⟨x, y, r, s, rfl, h4, h5, h6, h7⟩
        · rcases hL with hL | ⟨hn, hL⟩
          · have := gL_in b _ q hL; omega
          · exact ⟨u, [], (List.append_nil u).symm, (led_iff a ha i u hu).1 ⟨p, q, hF, h4, hL⟩, (nul_iff b hb).1 hn⟩
        · have hq : gL b (i + plc a) q = true := by
            rcases hL with hL | ⟨_, hL⟩
            · exact hL
            · exfalso
              have h8 := (gL_in a i q hL).2
              have : i + plc a ≤ q := by
                clear h8 hL h2 h3 hF hu
                have key : ∀ {s y q}, Path (gS b (i + plc a)) (gE b (i + plc a)) s y q → i + plc a ≤ q := fun h => by
                  induction h with
                  | one h => exact (gS_in b _ _ _ h).1.1
                  | more h e t ih => exact ih
                exact key h7
              omega
          exact ⟨x, y, rfl, (led_iff a ha i x (path_ne h4)).1 ⟨p, r, hF, h4, h5⟩, (led_iff b hb _ y (path_ne h7)).1 ⟨s, q, h6, h7, hq⟩⟩
      · have h4 := stays (a := a) (b := b) (i := i) (E := gE (.cat a b) i) (fun p q h hp => by
          simp only [gE, Bool.or_eq_true, Bool.and_eq_true] at h
          rcases h with (h | h) | ⟨h, _⟩
          · have := gE_in a i p q h; omega
          · exact h
          · have := gL_in a i p h; omega) h2 (gF_in b _ p hF).1
        have hq : gL b (i + plc a) q = true := by
          rcases hL with hL | ⟨_, hL⟩
          · exact hL
          · exfalso
            have h8 := (gL_in a i q hL).2
            have key : ∀ {s y q}, Path (gS b (i + plc a)) (gE b (i + plc a)) s y q → i + plc a ≤ q := fun h => by
              induction h with
              | one h => exact (gS_in b _ _ _ h).1.1
              | more h e t ih => exact ih
            have := key h4
            omega
        exact ⟨[], u, rfl, (nul_iff a ha).1 hn, (led_iff b hb _ u hu).1 ⟨p, q, hF, h4, hq⟩⟩
    · rintro ⟨x, y, rfl, h1, h2⟩
      by_cases hx : x = []
      · subst hx
        have hn := (nul_iff a ha).2 h1
        obtain ⟨p, q, g1, g2, g3⟩ := (led_iff b hb (i + plc a) y hu).2 h2
        refine ⟨p, q, ?_, mono2 g2, ?_⟩
        · simp only [gF]
          rw [if_pos hn]
          simp [f2, g1]
        · simp only [gL]
          split
          · simp [f2, g3]
          · exact g3
      · obtain ⟨p, q, g1, g2, g3⟩ := (led_iff a ha i x hx).2 h1
        have hF : gF (.cat a b) i p = true := by
          simp only [gF]
          split
          · simp [f2, g1]
          · exact g1
        by_cases hy : y = []
        · subst hy
          have hn := (nul_iff b hb).2 h2
          rw [List.append_nil]
          refine ⟨p, q, hF, mono1 g2, ?_⟩
          simp only [gL]
          rw [if_pos hn]
          simp [f2, g3]
        · obtain ⟨p', q', g4, g5, g6⟩ := (led_iff b hb (i + plc a) y hy).2 h2
          refine ⟨p, q', hF, (mono1 g2).then (by simp [gE, g3, g4]) (mono2 g5), ?_⟩
          simp only [gL]
          split
          · simp [f2, g6]
          · exact g6
  | .alt a b, ⟨ha, hb⟩, i, u, hu => by
    have hS : gS (.alt a b) i = sTwo a b i := rfl
    have hE : gE (.alt a b) i = eTwo a b i := rfl
    have mono1 : ∀ {p q u}, Path (gS a i) (gE a i) p u q → Path (sTwo a b i) (eTwo a b i) p u q := fun h => h.mono (fun _ _ h => by simp [sTwo, h]) fun _ _ h => by simp [eTwo, h]
    have mono2 : ∀ {p q u}, Path (gS b (i + plc a)) (gE b (i + plc a)) p u q → Path (sTwo a b i) (eTwo a b i) p u q := fun h => h.mono (fun _ _ h => by simp [sTwo, h]) fun _ _ h => by simp [eTwo, h]
    rw [hS, hE]
    simp only [Lang]
    constructor
    · rintro ⟨p, q, h1, h2, h3⟩
      simp only [gF, f2, Bool.or_eq_true] at h1
      simp only [gL, f2, Bool.or_eq_true] at h3
      have inA : ∀ {p q u}, Path (sTwo a b i) (eTwo a b i) p u q → p < i + plc a → Path (gS a i) (gE a i) p u q ∧ q < i + plc a := fun h => by
        induction h with
        | one h => exact fun hp => ⟨.one (first_S h hp), hp⟩
        | more h e t ih =>
          intro hp
          simp only [eTwo, Bool.or_eq_true] at e
          rcases e with e | e
          · obtain ⟨h4, h5⟩ := ih (gE_in a i _ _ e).2.2
            exact ⟨.more (first_S h hp) e h4, h5⟩
          · have := (gE_in b _ _ _ e).1
            omega
      have inB : ∀ {s y q}, Path (gS b (i + plc a)) (gE b (i + plc a)) s y q → i + plc a ≤ q := fun h => by
        induction h with
        | one h => exact (gS_in b _ _ _ h).1.1
        | more h e t ih => exact ih
      rcases h1 with h1 | h1
      · obtain ⟨h4, h5⟩ := inA h2 (gF_in a i p h1).2
        have hq : gL a i q = true := by
          rcases h3 with h | h
          · exact h
          · have := gL_in b _ q h; omega
        exact .inl ((led_iff a ha i u hu).1 ⟨p, q, h1, h4, hq⟩)
      · have h4 := stays (a := a) (b := b) (i := i) (E := eTwo a b i) (fun p q h hp => by
          simp only [eTwo, Bool.or_eq_true] at h
          rcases h with h | h
          · have := gE_in a i p q h; omega
          · exact h) h2 (gF_in b _ p h1).1
        have hq : gL b (i + plc a) q = true := by
          rcases h3 with h | h
          · have h5 := gL_in a i q h
            have h6 := inB h4
            omega
          · exact h
        exact .inr ((led_iff b hb _ u hu).1 ⟨p, q, h1, h4, hq⟩)
    · rintro (h | h)
      · obtain ⟨p, q, g1, g2, g3⟩ := (led_iff a ha i u hu).2 h
        exact ⟨p, q, by simp [gF, f2, g1], mono1 g2, by simp [gL, f2, g3]⟩
      · obtain ⟨p, q, g1, g2, g3⟩ := (led_iff b hb (i + plc a) u hu).2 h
        exact ⟨p, q, by simp [gF, f2, g1], mono2 g2, by simp [gL, f2, g3]⟩
  | .un k a, ⟨hk, ha⟩, i, u, hu => by
    have many : Led (gS a i) (fun p q => gE a i p q || (gL a i p && gF a i q)) (gF a i) (gL a i) u ↔ Many (Lang a) u := by
      constructor
      · rintro ⟨p, q, h1, h2, h3⟩
        obtain ⟨x, y, r, rfl, h4, h5, h6⟩ := again_split (P := Lang a) (fun v hv => by
          obtain ⟨p', q', g1, g2, g3⟩ := hv
          exact (led_iff a ha i v (path_ne g2)).1 ⟨p', q', g1, g2, g3⟩) h2 h3
        have hx := (led_iff a ha i x (path_ne h4)).1 ⟨p, r, h1, h4, h5⟩
        rcases h6 with rfl | h6
        · rw [List.append_nil]; exact .one hx
        · exact .more hx h6
      · exact fun h => many_led (fun v hv h => (led_iff a ha i v hv).2 h) h hu
    rcases hk with rfl | rfl | rfl
    · rw [led_un5 (by decide), many]
      simp [Lang, hu]
    · rw [led_un5 (by decide), many]
      simp [Lang]
    · have e : gE (.un 7 a) i = gE a i := by
        funext p q
        simp [gE]
      have eS : gS (.un 7 a) i = gS a i := rfl
      have eF : gF (.un 7 a) i = gF a i := rfl
      have eL : gL (.un 7 a) i = gL a i := rfl
      rw [e, eS, eF, eL, led_iff a ha i u hu]
      simp [Lang, hu]
end Go.Proofs.YtmpjjnjggihojaaGreatDoor

/- Reading a word by sets of open places: where words end; a list of trees with one net of places. Of no program. -/
namespace Go.Proofs.YtmpjjnjggihojaaGreatDoor

section
variable (S E : Nat → Nat → Bool) (L : Nat → Bool)
end
section
variable {S E : Nat → Nat → Bool} {L : Nat → Bool}
end

/-! ### where words end -/
def sub (W : List Nat) (p q : Nat) : List Nat := (W.take q).drop p
open Classical in
noncomputable def lgB (e : Ex) (W : List Nat) (p q : Nat) : Bool := decide (p ≤ q ∧ q ≤ W.length ∧ Lang e (sub W p q))
theorem lgB_iff {e : Ex} {W : List Nat} {p q : Nat} : lgB e W p q = true ↔ p ≤ q ∧ q ≤ W.length ∧ Lang e (sub W p q) := by simp [lgB]
theorem sub_self (W : List Nat) (p : Nat) : sub W p p = [] := by
  unfold sub
  rw [List.drop_eq_nil_iff]
  simp
  omega
theorem sub_more (W : List Nat) (a k : Nat) : sub W a (a + k + 1) = (W.drop a).take (k + 1) := by
  unfold sub
  rw [List.drop_take]
  congr 1
  omega
/-- is the last end the word's? -/
def lastIs (l : List Nat) (n : Nat) : Bool := match l.getLast? with
  | none => false
  | some q => q == n
theorem lastIs_iff {e : Ex} {W : List Nat} {a : Nat} : lastIs ((List.range (W.length + 1)).filter (lgB e W a)) W.length = lgB e W a W.length := by
  rw [List.range_succ, List.filter_append]
  by_cases h : lgB e W a W.length = true
  · rw [List.filter_cons, if_pos h, h]
    simp [lastIs]
  · rw [List.filter_cons, if_neg h]
    have h' : lgB e W a W.length = false := by simpa using h
    rw [h']
    simp only [List.filter_nil, List.append_nil, lastIs]
    split
    · rfl
    · rename_i q hq
      have := List.mem_range.1 (List.mem_filter.1 (List.mem_of_getLast? hq)).1
      simp
      omega
theorem sub_all (W : List Nat) : sub W 0 W.length = W := by simp [sub]
theorem says_iff {e : Ex} {W : List Nat} : lgB e W 0 W.length = true ↔ Lang e W := by
  rw [lgB_iff, sub_all]
  simp

/-! ### trees side by side in one net -/
def plcs : List Ex → Nat
  | [] => 0
  | t :: r => plc t + plcs r
def setsE : Ex → List (Nat → Bool)
  | .set f => [f]
  | .emp => []
  | .cat a b => setsE a ++ setsE b
  | .alt a b => setsE a ++ setsE b
  | .un _ a => setsE a
theorem setsE_len : ∀ e : Ex, (setsE e).length = plc e
  | .set _ => rfl
  | .emp => rfl
  | .cat a b => by simp [setsE, plc, setsE_len a, setsE_len b]
  | .alt a b => by simp [setsE, plc, setsE_len a, setsE_len b]
  | .un _ a => by simp [setsE, plc, setsE_len a]
/-- the sets of the places -/
theorem gS_sets : ∀ (e : Ex) (i p c : Nat), gS e i p c = (decide (i ≤ p) && ((setsE e).getD (p - i) fNone c && decide (c < 256)))
  | .set f, i, p, c => by
    simp only [gS, setsE]
    by_cases h : p = i
    · subst h; simp
    · by_cases h2 : i ≤ p
      · have : (p - i) = (p - i - 1) + 1 := by omega
        rw [this]
        simp [h, fNone]
      · simp [h, h2]
  | .emp, i, p, c => by simp [gS, setsE, fNone]
  | .cat a b, i, p, c => by
    have h1 := gS_sets a i p c
    have h2 := gS_sets b (i + plc a) p c
    have hl := setsE_len a
    simp only [gS, setsE, h1, h2, List.getD_eq_getElem?_getD]
    by_cases h3 : i + plc a ≤ p
    · rw [List.getElem?_append_right (by omega), List.getElem?_eq_none (l := setsE a) (by omega), hl, show p - i - plc a = p - (i + plc a) by omega]
      simp [h3, show i ≤ p by omega, fNone]
    · by_cases h4 : i ≤ p
      · rw [List.getElem?_append_left (by omega)]
        simp [h3, h4]
      · simp [h3, h4]
  | .alt a b, i, p, c => by
    have h1 := gS_sets a i p c
    have h2 := gS_sets b (i + plc a) p c
    have hl := setsE_len a
    simp only [gS, setsE, h1, h2, List.getD_eq_getElem?_getD]
    by_cases h3 : i + plc a ≤ p
    · rw [List.getElem?_append_right (by omega), List.getElem?_eq_none (l := setsE a) (by omega), hl, show p - i - plc a = p - (i + plc a) by omega]
      simp [h3, show i ≤ p by omega, fNone]
    · by_cases h4 : i ≤ p
      · rw [List.getElem?_append_left (by omega)]
        simp [h3, h4]
      · simp [h3, h4]
  | .un k a, i, p, c => gS_sets a i p c
theorem plc_ops : ∀ e : Ex, 2 * plc e ≤ (ops e).length + 1
  | .set _ => by simp [plc, ops]
  | .emp => by simp [plc]
  | .cat a b => by
    have := plc_ops a
    have := plc_ops b
    simp only [plc, ops, List.length_append, List.length_cons, List.length_nil]
    omega
  | .alt a b => by
    have := plc_ops a
    have := plc_ops b
    simp only [plc, ops, List.length_append, List.length_cons, List.length_nil]
    omega
  | .un k a => by
    have := plc_ops a
    simp only [plc, ops, List.length_append, List.length_cons, List.length_nil]
    omega
end Go.Proofs.YtmpjjnjggihojaaGreatDoor

/- What read keeps of each tree, and which spots met: the mathematics, without the program. -/
namespace Go.Proofs.YtmpjjnjggihojaaGreatDoor

/-- what is known of a tree whose first spot is i -/
def prtE (e : Ex) (i : Nat) : Prt := ⟨gF e i, gL e i, nul e⟩
/-- which parts met, in the order of the steps -/
def met : Ex → Nat → List (Prt × Prt)
  | .set _, _ => []
  | .emp, _ => []
  | .cat a b, i => met a i ++ met b (i + plc a) ++ [(prtE a i, prtE b (i + plc a))]
  | .alt a b, i => met a i ++ met b (i + plc a)
  | .un k a, i => if k = 7 then met a i else met a i ++ [(prtE a i, prtE a i)]
def fMet : List Ex → Nat → List (Prt × Prt)
  | [], _ => []
  | t :: r, i => met t i ++ fMet r (i + plc t)
theorem fMet_append : ∀ (l m : List Ex) (i : Nat), fMet (l ++ m) i = fMet l i ++ fMet m (i + plcs l)
  | [], m, i => by simp [fMet, plcs]
  | x :: r, m, i => by
    rw [List.cons_append, fMet, fMet_append r m, fMet, plcs, List.append_assoc, Nat.add_assoc]
/-- what follows p, of parts that met -/
theorem met_iff : ∀ (e : Ex) (i p q : Nat), (met e i).any (fun x => x.1.last p && x.2.first q) = gE e i p q
  | .set _, _, _, _ => rfl
  | .emp, _, _, _ => rfl
  | .cat a b, i, p, q => by
    simp only [met, gE, List.any_append, List.any_cons, List.any_nil, Bool.or_false, met_iff a, met_iff b]
    rfl
  | .alt a b, i, p, q => by simp only [met, gE, List.any_append, met_iff a, met_iff b]
  | .un k a, i, p, q => by
    simp only [met, gE]
    by_cases h : k = 7
    · rw [if_pos h, if_pos h, met_iff a]
    · rw [if_neg h, if_neg h]
      simp only [List.any_append, List.any_cons, List.any_nil, Bool.or_false, met_iff a]
      rfl
/-- the set of Follow, behind all that met -/
theorem folG_all (i : Nat) (hi : i < 256) : ∀ (D : List (Prt × Prt)) (G : Nat → Bool) (q : Nat), (D.foldl (fun G x => folG i G x.1 x.2) G) q = (G q || D.any fun x => x.1.last i && x.2.first q)
  | [], G, q => by simp
  | x :: r, G, q => by
    rw [List.foldl_cons, folG_all i hi r, List.any_cons, ← Bool.or_assoc]
    refine congrArg (· || r.any fun x => x.1.last i && x.2.first q) ?_
    have h0 : (0 : Int) ≤ (i : Int) := by omega
    have h1 : ((i : Int)) < 256 := by omega
    have hh : hasS x.1.last (i : Int) = x.1.last i := by
      unfold hasS
      rw [decide_eq_true h0, decide_eq_true h1, Bool.true_and, Bool.true_and, Int.toNat_natCast]
    unfold folG
    rw [hh]
    cases x.1.last i
    · rw [cond_false, Bool.false_and, Bool.or_false]
    · rw [cond_true, Bool.true_and]
      rfl
theorem folG_out (i : Int) (hi : ¬ (0 ≤ i ∧ i < 256)) (G : Nat → Bool) (a b : Prt) : folG i G a b = G := by
  unfold folG
  have : hasS a.last i = false := by
    unfold hasS
    by_cases h0 : 0 ≤ i
    · simp [show ¬ i < 256 by omega]
    · simp [h0]
  rw [this]
  rfl
end Go.Proofs.YtmpjjnjggihojaaGreatDoor
