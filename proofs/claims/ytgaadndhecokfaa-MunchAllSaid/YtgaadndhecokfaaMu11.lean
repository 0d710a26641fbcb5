/- SpMeet, FaGlu, FaRun, SpMath, put together. -/
import Derived.Test.YtgaadndhecokfaaMu10
import Derived.Test.YtgaadndhecokfaaMu07
/- What is done for spots that stand one behind the other: nothing (whole), or a set that grows (Follow); contracts of chain and repeat, whatever is done. -/
namespace Go.Proofs.Ytgaadndhecokfaa
open Go.RowKit Go.Lib Go.Joins

section
variable {w w' w'' : World} {row : Option Nat}
end
/-- the set of Follow, behind one such call -/
def folG (i : Int) (G : Nat → Bool) (a b : Prt) : Nat → Bool := bif hasS a.last i then fOr G b.first else G
attribute [local go_sem] evalR_tmp evalR_const evalR_global evalR_func
end Go.Proofs.Ytgaadndhecokfaa

/- The places of an expression, which follow which, and the words that they lead through: just those that it matches. Of no program. -/
namespace Go.Proofs.Ytgaadndhecokfaa

/-- how many places -/
def plc : Ex → Nat
  | .set _ => 1
  | .emp => 0
  | .cat a b => plc a + plc b
  | .alt a b => plc a + plc b
  | .un _ a => plc a
def gF : Ex → Nat → Nat → Bool
  | .set _, i => fOne i
  | .emp, _ => fNone
  | .cat a b, i => if nul a = true then f2 (gF a i) (gF b (i + plc a)) else gF a i
  | .alt a b, i => f2 (gF a i) (gF b (i + plc a))
  | .un _ a, i => gF a i
def gL : Ex → Nat → Nat → Bool
  | .set _, i => fOne i
  | .emp, _ => fNone
  | .cat a b, i => if nul b = true then f2 (gL a i) (gL b (i + plc a)) else gL b (i + plc a)
  | .alt a b, i => f2 (gL a i) (gL b (i + plc a))
  | .un _ a, i => gL a i
def gE : Ex → Nat → Nat → Nat → Bool
  | .set _, _, _, _ => false
  | .emp, _, _, _ => false
  | .cat a b, i, p, q => gE a i p q || gE b (i + plc a) p q || (gL a i p && gF b (i + plc a) q)
  | .alt a b, i, p, q => gE a i p q || gE b (i + plc a) p q
  | .un k a, i, p, q => if k = 7 then gE a i p q else gE a i p q || (gL a i p && gF a i q)
theorem gF_in : ∀ (e : Ex) (i p : Nat), gF e i p = true → i ≤ p ∧ p < i + plc e
  | .set _, i, p, h => by simp [gF, fOne] at h; simp [plc]; omega
  | .emp, _, _, h => by simp [gF, fNone] at h
  | .cat a b, i, p, h => by
    simp only [plc]
    simp only [gF] at h
    split at h
    · simp only [f2, Bool.or_eq_true] at h
      rcases h with h | h
      · have := gF_in a i p h; omega
      · have := gF_in b _ p h; omega
    · have := gF_in a i p h; omega
  | .alt a b, i, p, h => by
    simp only [plc]
    simp only [gF, f2, Bool.or_eq_true] at h
    rcases h with h | h
    · have := gF_in a i p h; omega
    · have := gF_in b _ p h; omega
  | .un k a, i, p, h => gF_in a i p h
theorem gL_in : ∀ (e : Ex) (i p : Nat), gL e i p = true → i ≤ p ∧ p < i + plc e
  | .set _, i, p, h => by simp [gL, fOne] at h; simp [plc]; omega
  | .emp, _, _, h => by simp [gL, fNone] at h
  | .cat a b, i, p, h => by
    simp only [plc]
    simp only [gL] at h
    split at h
    · simp only [f2, Bool.or_eq_true] at h
      rcases h with h | h
      · have := gL_in a i p h; omega
      · have := gL_in b _ p h; omega
    · have := gL_in b _ p h; omega
  | .alt a b, i, p, h => by
    simp only [plc]
    simp only [gL, f2, Bool.or_eq_true] at h
    rcases h with h | h
    · have := gL_in a i p h; omega
    · have := gL_in b _ p h; omega
  | .un k a, i, p, h => gL_in a i p h
theorem gE_in : ∀ (e : Ex) (i p q : Nat), gE e i p q = true → (i ≤ p ∧ p < i + plc e) ∧ (i ≤ q ∧ q < i + plc e)
  | .set _, _, _, _, h => by simp [gE] at h
  | .emp, _, _, _, h => by simp [gE] at h
  | .cat a b, i, p, q, h => by
    simp only [plc]
    simp only [gE, Bool.or_eq_true, Bool.and_eq_true] at h
    rcases h with (h | h) | ⟨h1, h2⟩
    · have := gE_in a i p q h; omega
    · have := gE_in b _ p q h; omega
    · have h3 := gL_in a i p h1
      have h4 := gF_in b _ q h2
      omega
  | .alt a b, i, p, q, h => by
    simp only [plc]
    simp only [gE, Bool.or_eq_true] at h
    rcases h with h | h
    · have := gE_in a i p q h; omega
    · have := gE_in b _ p q h; omega
  | .un k a, i, p, q, h => by
    simp only [plc]
    simp only [gE] at h
    split at h
    · exact gE_in a i p q h
    · simp only [Bool.or_eq_true, Bool.and_eq_true] at h
      rcases h with h | ⟨h1, h2⟩
      · exact gE_in a i p q h
      · exact ⟨gL_in a i p h1, gF_in a i q h2⟩
/-- a word leads from a place to a place: the first byte is of the first place -/
inductive Path (S E : Nat → Nat → Bool) : Nat → List Nat → Nat → Prop
  | one {p c : Nat} (h : S p c = true) : Path S E p [c] p
  | more {p c r q : Nat} {u : List Nat} (h : S p c = true) (e : E p r = true) (t : Path S E r u q) : Path S E p (c :: u) q
section
variable {S E S' E' : Nat → Nat → Bool}
theorem Path.mono (hS : ∀ p c, S p c = true → S' p c = true) (hE : ∀ p q, E p q = true → E' p q = true) {p q : Nat} {u : List Nat} (h : Path S E p u q) : Path S' E' p u q := by
  induction h with
  | one h => exact .one (hS _ _ h)
  | more h e t ih => exact .more (hS _ _ h) (hE _ _ e) ih
theorem Path.then {p r s q : Nat} {u v : List Nat} (h : Path S E p u r) (e : E r s = true) (t : Path S E s v q) : Path S E p (u ++ v) q := by
  induction h with
  | one h => exact .more h e t
  | more h e' t' ih => exact .more h e' (ih e)
end
section
variable {a b : Ex} {i : Nat}
end
end Go.Proofs.Ytgaadndhecokfaa

/- Reading a word by sets of open places: where words end; a list of trees with one net of places. Of no program. -/
namespace Go.Proofs.Ytgaadndhecokfaa

section
variable (S E : Nat → Nat → Bool) (L : Nat → Bool)
end
section
variable {S E : Nat → Nat → Bool} {L : Nat → Bool}
end

/-! ### where words end -/
/-! ### trees side by side in one net -/
def plcs : List Ex → Nat
  | [] => 0
  | t :: r => plc t + plcs r
theorem plc_ops : ∀ e : Ex, 2 * plc e ≤ (ops e).length + 1
  | .set _ => by simp [plc, ops]
  | .emp => by simp [plc]
  | .cat a b => by
    have := plc_ops a
    have := plc_ops b
    simp only [plc, ops, List.length_append, List.length_cons, List.length_nil]
    omega
  | .alt a b => by
    have := plc_ops a
    have := plc_ops b
    simp only [plc, ops, List.length_append, List.length_cons, List.length_nil]
    omega
  | .un k a => by
    have := plc_ops a
    simp only [plc, ops, List.length_append, List.length_cons, List.length_nil]
    omega
end Go.Proofs.Ytgaadndhecokfaa

/- What read keeps of each tree, and which spots met: the mathematics, without the program. -/
namespace Go.Proofs.Ytgaadndhecokfaa

/-- what is known of a tree whose first spot is i -/
def prtE (e : Ex) (i : Nat) : Prt := ⟨gF e i, gL e i, nul e⟩
/-- which parts met, in the order of the steps -/
def met : Ex → Nat → List (Prt × Prt)
  | .set _, _ => []
  | .emp, _ => []
  | .cat a b, i => met a i ++ met b (i + plc a) ++ [(prtE a i, prtE b (i + plc a))]
  | .alt a b, i => met a i ++ met b (i + plc a)
  | .un k a, i => if k = 7 then met a i else met a i ++ [(prtE a i, prtE a i)]
def fMet : List Ex → Nat → List (Prt × Prt)
  | [], _ => []
  | t :: r, i => met t i ++ fMet r (i + plc t)
theorem fMet_append : ∀ (l m : List Ex) (i : Nat), fMet (l ++ m) i = fMet l i ++ fMet m (i + plcs l)
  | [], m, i => by simp [fMet, plcs]
  | x :: r, m, i => by
    rw [List.cons_append, fMet, fMet_append r m, fMet, plcs, List.append_assoc, Nat.add_assoc]
/-- what follows p, of parts that met -/
theorem met_iff : ∀ (e : Ex) (i p q : Nat), (met e i).any (fun x => x.1.last p && x.2.first q) = gE e i p q
  | .set _, _, _, _ => rfl
  | .emp, _, _, _ => rfl
  | .cat a b, i, p, q => by
    simp only [met, gE, List.any_append, List.any_cons, List.any_nil, Bool.or_false, met_iff a, met_iff b]
    rfl
  | .alt a b, i, p, q => by simp only [met, gE, List.any_append, met_iff a, met_iff b]
  | .un k a, i, p, q => by
    simp only [met, gE]
    by_cases h : k = 7
    · rw [if_pos h, if_pos h, met_iff a]
    · rw [if_neg h, if_neg h]
      simp only [List.any_append, List.any_cons, List.any_nil, Bool.or_false, met_iff a]
      rfl
/-- the set of Follow, behind all that met -/
theorem folG_all (i : Nat) (hi : i < 256) : ∀ (D : List (Prt × Prt)) (G : Nat → Bool) (q : Nat), (D.foldl (fun G x => folG i G x.1 x.2) G) q = (G q || D.any fun x => x.1.last i && x.2.first q)
  | [], G, q => by simp
  | x :: r, G, q => by
    rw [List.foldl_cons, folG_all i hi r, List.any_cons, ← Bool.or_assoc]
    refine congrArg (· || r.any fun x => x.1.last i && x.2.first q) ?_
    have h0 : (0 : Int) ≤ (i : Int) := by omega
    have h1 : ((i : Int)) < 256 := by omega
    have hh : hasS x.1.last (i : Int) = x.1.last i := by
      unfold hasS
      rw [decide_eq_true h0, decide_eq_true h1, Bool.true_and, Bool.true_and, Int.toNat_natCast]
    unfold folG
    rw [hh]
    cases x.1.last i
    · rw [cond_false, Bool.false_and, Bool.or_false]
    · rw [cond_true, Bool.true_and]
      rfl
theorem folG_out (i : Int) (hi : ¬ (0 ≤ i ∧ i < 256)) (G : Nat → Bool) (a b : Prt) : folG i G a b = G := by
  unfold folG
  have : hasS a.last i = false := by
    unfold hasS
    by_cases h0 : 0 ≤ i
    · simp [show ¬ i < 256 by omega]
    · simp [h0]
  rw [this]
  rfl
end Go.Proofs.Ytgaadndhecokfaa
