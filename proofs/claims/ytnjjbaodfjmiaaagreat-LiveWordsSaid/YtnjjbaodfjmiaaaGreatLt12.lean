/- FaGlu, FaRun, SpMath, SpEnds, put together. -/
import Derived.Test.YtnjjbaodfjmiaaaGreatLt08
import Derived.Test.YtnjjbaodfjmiaaaGreatLt11
import Derived.Test.YtnjjbaodfjmiaaaGreatLt09
import Derived.Test.YtnjjbaodfjmiaaaGreatLt10
/- The places of an expression, which follow which, and the words that they lead through: just those that it matches. Of no program. -/
namespace Go.Proofs.YtnjjbaodfjmiaaaGreat

/-- how many places -/
def plc : Ex → Nat
  | .set _ => 1
  | .emp => 0
  | .cat a b => plc a + plc b
  | .alt a b => plc a + plc b
  | .un _ a => plc a
def gF : Ex → Nat → Nat → Bool
  | .set _, i => fOne i
  | .emp, _ => fNone
  | .cat a b, i => if nul a = true then f2 (gF a i) (gF b (i + plc a)) else gF a i
  | .alt a b, i => f2 (gF a i) (gF b (i + plc a))
  | .un _ a, i => gF a i
def gL : Ex → Nat → Nat → Bool
  | .set _, i => fOne i
  | .emp, _ => fNone
  | .cat a b, i => if nul b = true then f2 (gL a i) (gL b (i + plc a)) else gL b (i + plc a)
  | .alt a b, i => f2 (gL a i) (gL b (i + plc a))
  | .un _ a, i => gL a i
def gE : Ex → Nat → Nat → Nat → Bool
  | .set _, _, _, _ => false
  | .emp, _, _, _ => false
  | .cat a b, i, p, q => gE a i p q || gE b (i + plc a) p q || (gL a i p && gF b (i + plc a) q)
  | .alt a b, i, p, q => gE a i p q || gE b (i + plc a) p q
  | .un k a, i, p, q => if k = 7 then gE a i p q else gE a i p q || (gL a i p && gF a i q)
theorem gF_in : ∀ (e : Ex) (i p : Nat), gF e i p = true → i ≤ p ∧ p < i + plc e
  | .set _, i, p, h => by simp [gF, fOne] at h; simp [plc]; omega
  | .emp, _, _, h => by simp [gF, fNone] at h
  | .cat a b, i, p, h => by
    simp only [plc]
    simp only [gF] at h
    split at h
    · simp only [f2, Bool.or_eq_true] at h
      rcases h with h | h
      · have := gF_in a i p h; omega
      · have := gF_in b _ p h; omega
    · have := gF_in a i p h; omega
  | .alt a b, i, p, h => by
    simp only [plc]
    simp only [gF, f2, Bool.or_eq_true] at h
    rcases h with h | h
    · have := gF_in a i p h; omega
    · have := gF_in b _ p h; omega
  | .un k a, i, p, h => gF_in a i p h
theorem gL_in : ∀ (e : Ex) (i p : Nat), gL e i p = true → i ≤ p ∧ p < i + plc e
  | .set _, i, p, h => by simp [gL, fOne] at h; simp [plc]; omega
  | .emp, _, _, h => by simp [gL, fNone] at h
  | .cat a b, i, p, h => by
    simp only [plc]
    simp only [gL] at h
    split at h
    · simp only [f2, Bool.or_eq_true] at h
      rcases h with h | h
      · have := gL_in a i p h; omega
      · have := gL_in b _ p h; omega
    · have := gL_in b _ p h; omega
  | .alt a b, i, p, h => by
    simp only [plc]
    simp only [gL, f2, Bool.or_eq_true] at h
    rcases h with h | h
    · have := gL_in a i p h; omega
    · have := gL_in b _ p h; omega
  | .un k a, i, p, h => gL_in a i p h
theorem gE_in : ∀ (e : Ex) (i p q : Nat), gE e i p q = true → (i ≤ p ∧ p < i + plc e) ∧ (i ≤ q ∧ q < i + plc e)
  | .set _, _, _, _, h => by simp [gE] at h
  | .emp, _, _, _, h => by simp [gE] at h
  | .cat a b, i, p, q, h => by
    simp only [plc]
    simp only [gE, Bool.or_eq_true, Bool.and_eq_true] at h
    rcases h with (h | h) | ⟨h1, h2⟩
    · have := gE_in a i p q h; omega
    · have := gE_in b _ p q h; omega
    · have h3 := gL_in a i p h1
      have h4 := gF_in b _ q h2
      omega
  | .alt a b, i, p, q, h => by
    simp only [plc]
    simp only [gE, Bool.or_eq_true] at h
    rcases h with h | h
    · have := gE_in a i p q h; omega
    · have := gE_in b _ p q h; omega
  | .un k a, i, p, q, h => by
    simp only [plc]
    simp only [gE] at h
    split at h
    · exact gE_in a i p q h
    · simp only [Bool.or_eq_true, Bool.and_eq_true] at h
      rcases h with h | ⟨h1, h2⟩
      · exact gE_in a i p q h
      · exact ⟨gL_in a i p h1, gF_in a i q h2⟩
/-- a word leads from a place to a place: the first byte is of the first place -/
inductive Path (S E : Nat → Nat → Bool) : Nat → List Nat → Nat → Prop
  | one {p c : Nat} (h : S p c = true) : Path S E p [c] p
  | more {p c r q : Nat} {u : List Nat} (h : S p c = true) (e : E p r = true) (t : Path S E r u q) : Path S E p (c :: u) q
section
variable {S E S' E' : Nat → Nat → Bool}
theorem Path.mono (hS : ∀ p c, S p c = true → S' p c = true) (hE : ∀ p q, E p q = true → E' p q = true) {p q : Nat} {u : List Nat} (h : Path S E p u q) : Path S' E' p u q := by
  induction h with
  | one h => exact .one (hS _ _ h)
  | more h e t ih => exact .more (hS _ _ h) (hE _ _ e) ih
theorem Path.then {p r s q : Nat} {u v : List Nat} (h : Path S E p u r) (e : E r s = true) (t : Path S E s v q) : Path S E p (u ++ v) q := by
  induction h with
  | one h => exact .more h e t
  | more h e' t' ih => exact .more h e' (ih e)
end
section
variable {a b : Ex} {i : Nat}
end
end Go.Proofs.YtnjjbaodfjmiaaaGreat

/- Reading a word by sets of open places: where words end; a list of trees with one net of places. Of no program. -/
namespace Go.Proofs.YtnjjbaodfjmiaaaGreat

section
variable (S E : Nat → Nat → Bool) (L : Nat → Bool)
end
section
variable {S E : Nat → Nat → Bool} {L : Nat → Bool}
end

/-! ### where words end -/
/-! ### trees side by side in one net -/
def plcs : List Ex → Nat
  | [] => 0
  | t :: r => plc t + plcs r
theorem plc_ops : ∀ e : Ex, 2 * plc e ≤ (ops e).length + 1
  | .set _ => by simp [plc, ops]
  | .emp => by simp [plc]
  | .cat a b => by
    have := plc_ops a
    have := plc_ops b
    simp only [plc, ops, List.length_append, List.length_cons, List.length_nil]
    omega
  | .alt a b => by
    have := plc_ops a
    have := plc_ops b
    simp only [plc, ops, List.length_append, List.length_cons, List.length_nil]
    omega
  | .un k a => by
    have := plc_ops a
    simp only [plc, ops, List.length_append, List.length_cons, List.length_nil]
    omega
end Go.Proofs.YtnjjbaodfjmiaaaGreat

/- What read keeps of each tree, and which spots met: the mathematics, without the program. -/
namespace Go.Proofs.YtnjjbaodfjmiaaaGreat

/-- what is known of a tree whose first spot is i -/
def prtE (e : Ex) (i : Nat) : Prt := ⟨gF e i, gL e i, nul e⟩
/-- which parts met, in the order of the steps -/
def met : Ex → Nat → List (Prt × Prt)
  | .set _, _ => []
  | .emp, _ => []
  | .cat a b, i => met a i ++ met b (i + plc a) ++ [(prtE a i, prtE b (i + plc a))]
  | .alt a b, i => met a i ++ met b (i + plc a)
  | .un k a, i => if k = 7 then met a i else met a i ++ [(prtE a i, prtE a i)]
def fMet : List Ex → Nat → List (Prt × Prt)
  | [], _ => []
  | t :: r, i => met t i ++ fMet r (i + plc t)
theorem fMet_append : ∀ (l m : List Ex) (i : Nat), fMet (l ++ m) i = fMet l i ++ fMet m (i + plcs l)
  | [], m, i => by simp [fMet, plcs]
  | x :: r, m, i => by
    rw [List.cons_append, fMet, fMet_append r m, fMet, plcs, List.append_assoc, Nat.add_assoc]
/-- what follows p, of parts that met -/
theorem met_iff : ∀ (e : Ex) (i p q : Nat), (met e i).any (fun x => x.1.last p && x.2.first q) = gE e i p q
  | .set _, _, _, _ => rfl
  | .emp, _, _, _ => rfl
  | .cat a b, i, p, q => by
    simp only [met, gE, List.any_append, List.any_cons, List.any_nil, Bool.or_false, met_iff a, met_iff b]
    rfl
  | .alt a b, i, p, q => by simp only [met, gE, List.any_append, met_iff a, met_iff b]
  | .un k a, i, p, q => by
    simp only [met, gE]
    by_cases h : k = 7
    · rw [if_pos h, if_pos h, met_iff a]
    · rw [if_neg h, if_neg h]
      simp only [List.any_append, List.any_cons, List.any_nil, Bool.or_false, met_iff a]
      rfl
/-- the set of Follow, behind all that met -/
theorem folG_all (i : Nat) (hi : i < 256) : ∀ (D : List (Prt × Prt)) (G : Nat → Bool) (q : Nat), (D.foldl (fun G x => folG i G x.1 x.2) G) q = (G q || D.any fun x => x.1.last i && x.2.first q)
  | [], G, q => by simp
  | x :: r, G, q => by
    rw [List.foldl_cons, folG_all i hi r, List.any_cons, ← Bool.or_assoc]
    refine congrArg (· || r.any fun x => x.1.last i && x.2.first q) ?_
    have h0 : (0 : Int) ≤ (i : Int) := by omega
    have h1 : ((i : Int)) < 256 := by omega
    have hh : hasS x.1.last (i : Int) = x.1.last i := by
      unfold hasS
      rw [decide_eq_true h0, decide_eq_true h1, Bool.true_and, Bool.true_and, Int.toNat_natCast]
    unfold folG
    rw [hh]
    cases x.1.last i
    · rw [cond_false, Bool.false_and, Bool.or_false]
    · rw [cond_true, Bool.true_and]
      rfl
theorem folG_out (i : Int) (hi : ¬ (0 ≤ i ∧ i < 256)) (G : Nat → Bool) (a b : Prt) : folG i G a b = G := by
  unfold folG
  have : hasS a.last i = false := by
    unfold hasS
    by_cases h0 : 0 ≤ i
    · simp [show ¬ i < 256 by omega]
    · simp [h0]
  rw [this]
  rfl
end Go.Proofs.YtnjjbaodfjmiaaaGreat

/- Contract of the reference's ends, at the steps of a tree. -/
namespace Go.Proofs.YtnjjbaodfjmiaaaGreat
open Go.RowKit Go.Lib Go.Joins
/-- the spots with which spellings of a tree begin, or end, as the reference lists them -/
def endE (last : Bool) : Ex → Nat → List Nat
  | .set _, n => [n]
  | .emp, _ => []
  | .un _ a, n => endE last a n
  | .alt a c, n => endE last a n ++ endE last c (n + plc a)
  | .cat a c, n => if last then (if nul c then endE last a n ++ endE last c (n + plc a) else endE last c (n + plc a)) else (if nul a then endE last a n ++ endE last c (n + plc a) else endE last a n)
theorem endE_len (last : Bool) : ∀ (e : Ex) (n : Nat), (endE last e n).length ≤ plc e
  | .set _, n => Nat.le_refl _
  | .emp, _ => Nat.le_refl _
  | .un _ a, n => endE_len last a n
  | .alt a c, n => by
    have h1 := endE_len last a n
    have h2 := endE_len last c (n + plc a)
    simp only [endE, plc, List.length_append]; omega
  | .cat a c, n => by
    have h1 := endE_len last a n
    have h2 := endE_len last c (n + plc a)
    simp only [endE, plc]
    split <;> split <;> (try simp only [List.length_append]) <;> omega
theorem endE_in (last : Bool) : ∀ (e : Ex) (n p : Nat), p ∈ endE last e n → n ≤ p ∧ p < n + plc e
  | .set _, n, p, h => by simp [endE] at h; simp [plc]; omega
  | .emp, _, p, h => by simp [endE] at h
  | .un _ a, n, p, h => endE_in last a n p h
  | .alt a c, n, p, h => by
    simp only [endE, List.mem_append] at h
    simp only [plc]
    rcases h with h | h
    · have := endE_in last a n p h; omega
    · have := endE_in last c _ p h; omega
  | .cat a c, n, p, h => by
    have h' : p ∈ endE last a n ∨ p ∈ endE last c (n + plc a) := by
      simp only [endE] at h
      split at h <;> split at h <;> (try simp only [List.mem_append] at h) <;> first | exact h | exact .inl h | exact .inr h
    simp only [plc]
    rcases h' with h | h
    · have := endE_in last a n p h; omega
    · have := endE_in last c _ p h; omega
theorem endE_mem (last : Bool) : ∀ (e : Ex) (n p : Nat), p ∈ endE last e n ↔ (if last then gL e n p else gF e n p) = true
  | .set _, n, p => by cases last <;> simp [endE, gF, gL, fOne]
  | .emp, _, p => by cases last <;> simp [endE, gF, gL, fNone]
  | .un _ a, n, p => by have := endE_mem last a n p; cases last <;> simpa [endE, gF, gL] using this
  | .alt a c, n, p => by
    have h1 := endE_mem last a n p
    have h2 := endE_mem last c (n + plc a) p
    cases last
    · simp only [endE, gF, List.mem_append] at *
      simp [h1, h2, f2]
    · simp only [endE, gL, List.mem_append] at *
      simp [h1, h2, f2]
  | .cat a c, n, p => by
    have h1 := endE_mem last a n p
    have h2 := endE_mem last c (n + plc a) p
    cases last
    · simp only [endE, gF] at *
      cases nul a
      · simpa using h1
      · simp at h1 h2; simp [h1, h2, f2]
    · simp only [endE, gL] at *
      cases nul c
      · simpa using h2
      · simp at h1 h2; simp [h1, h2, f2]
theorem endE_up (last : Bool) : ∀ (e : Ex) (n : Nat), (endE last e n).Pairwise (· < ·)
  | .set _, n => by simp [endE]
  | .emp, _ => by simp [endE]
  | .un _ a, n => endE_up last a n
  | .alt a c, n => by
    simp only [endE]
    exact List.pairwise_append.2 ⟨endE_up last a n, endE_up last c _, fun p hp q hq => by have := endE_in last a n p hp; have := endE_in last c _ q hq; omega⟩
  | .cat a c, n => by
    have h : (endE last a n ++ endE last c (n + plc a)).Pairwise (· < ·) := List.pairwise_append.2 ⟨endE_up last a n, endE_up last c _, fun p hp q hq => by have := endE_in last a n p hp; have := endE_in last c _ q hq; omega⟩
    simp only [endE]
    split <;> split
    · exact h
    · exact endE_up last c _
    · exact h
    · exact endE_up last a n
/-- two rising lists of the same numbers are the same -/
theorem nup_ext : ∀ {a b : List Nat}, a.Pairwise (· < ·) → b.Pairwise (· < ·) → (∀ p, p ∈ a ↔ p ∈ b) → a = b
  | [], [], _, _, _ => rfl
  | [], y :: b, _, _, h => by have := (h y).2 (by simp); simp at this
  | x :: a, [], _, _, h => by have := (h x).1 (by simp); simp at this
  | x :: a, y :: b, ha, hb, h => by
    obtain ⟨ha1, ha2⟩ := List.pairwise_cons.1 ha
    obtain ⟨hb1, hb2⟩ := List.pairwise_cons.1 hb
    have hxy : x = y := by
      have h1 := (h x).1 (by simp)
      have h2 := (h y).2 (by simp)
      simp only [List.mem_cons] at h1 h2
      rcases h1 with h1 | h1
      · exact h1
      · rcases h2 with h2 | h2
        · exact h2.symm
        · have := hb1 x h1; have := ha1 y h2; omega
    subst hxy
    congr 1
    refine nup_ext ha2 hb2 fun p => ?_
    have h1 := h p
    simp only [List.mem_cons] at h1
    constructor
    · intro hp
      have := ha1 p hp
      rcases h1.1 (.inr hp) with h2 | h2
      · omega
      · exact h2
    · intro hp
      have := hb1 p hp
      rcases h1.2 (.inr hp) with h2 | h2
      · omega
      · exact h2
theorem elems_up (f : Nat → Bool) : (elems f).Pairwise (· < ·) := List.Pairwise.filter _ List.pairwise_lt_range
theorem elems_mem (f : Nat → Bool) (p : Nat) : p ∈ elems f ↔ p < 256 ∧ f p = true := by unfold elems; simp
theorem endE_elems {last : Bool} {e : Ex} {n : Nat} (h : n + plc e ≤ 256) : elems (if last then gL e n else gF e n) = endE last e n := by
  refine nup_ext (elems_up _) (endE_up last e n) fun p => ?_
  rw [elems_mem, endE_mem]
  cases last
  · simp only [Bool.false_eq_true, if_false]
    exact ⟨fun h => h.2, fun k => ⟨by have := gF_in e n p k; omega, k⟩⟩
  · simp only [if_true]
    exact ⟨fun h => h.2, fun k => ⟨by have := gL_in e n p k; omega, k⟩⟩
theorem sets_ops : ∀ e : Ex, e.ok → (sets (ops e)).length = plc e
  | .set _, _ => rfl
  | .emp, _ => rfl
  | .un k a, ⟨hk, ha⟩ => by
    have h := sets_ops a ha
    unfold sets at *
    simp only [ops, plc, List.filter_append, List.length_append, h]
    rcases hk with rfl | rfl | rfl <;> rfl
  | .alt a c, ⟨ha, hc⟩ => by
    have h := sets_ops a ha
    have h' := sets_ops c hc
    unfold sets at *
    simp only [ops, plc, List.filter_append, List.length_append, h, h']
    rfl
  | .cat a c, ⟨ha, hc⟩ => by
    have h := sets_ops a ha
    have h' := sets_ops c hc
    unfold sets at *
    simp only [ops, plc, List.filter_append, List.length_append, h, h']
    rfl
theorem sets_append (a b : List Stp) : sets (a ++ b) = sets a ++ sets b := List.filter_append ..
theorem RowZ.one (w : World) (n : Int) (b : Nat) (hb : b = w.heap.size) : RowZ (w.alloc (.cells #[.int .i64 n] 3)) w.heap.size (.slice (some ⟨b, 0, none⟩) 1 1) [n] := by
  subst hb
  exact World.ownsRow_lit (e := 3) (size := 1) w #[.int .i64 n] 1 (Nat.le_refl _) (by decide) rfl
section
variable {b off cap : Nat} {L : List Stp}
def TellZ (b off cap : Nat) (L : List Stp) (last : Bool) (i : Nat) (l : List Int) : Prop := ∀ w, Lay b off L w → Calls Tryz.prog 94 #[.slice (some ⟨b, off, none⟩) L.length cap, .int .i64 i, .bool last] w (RetZ w l)
theorem Lay.sl {w : World} (h : Lay b off L w) (hc : L.length ≤ cap) (hm : cap ≤ maxLen) : SlX (fun x => x < w.heap.size) w (.slice (some ⟨b, off, none⟩) L.length cap) L :=
  ⟨some ⟨b, off, none⟩, cap, rfl, hc, hm, (fun e => by cases e), rfl, fun _ => ⟨b, off, rfl, h.1, h.2⟩⟩
set_option maxRecDepth 100000 in
theorem rendSet {i : Nat} {last : Bool} {c : Nat} (hi : i < L.length) (hk : (L.getD i default).k = 1) (hl : L.length ≤ 512) (hc : L.length ≤ cap) (hm : cap ≤ maxLen) (hn : cnt L i = c) : TellZ b off cap L last i [(c : Int)] := by
  intro w h
  have c0 := h.kind hi hk
  have HN := hidden (number_calls (h.sl hc hm) (Nat.le_of_lt hi) hl)
  rw [hn] at HN
  have HR := hidden (RowZ.one w (c : Int) w.heap.size rfl)
  have HB := hidden ((Below.refl w.heap.size w).alloc (Nat.le_refl _) (.cells #[.int .i64 (c : Int)] 3))
  generalize L.length = n at *
  clear h hk hn
  go_enter Tryz.func94, Tryz.ntmps94
  go_wp2_with fail
  refine HN.out.mono ?_
  rintro e w1 ⟨rfl, rfl⟩
  go_wp2
  go_ret
  exact ⟨_, rfl, HR.out, HB.out⟩
set_option maxRecDepth 100000 in
theorem rendEmp {i : Nat} {last : Bool} (hi : i < L.length) (hk : (L.getD i default).k = 2) : TellZ b off cap L last i [] := by
  intro w h
  have c0 := h.kind hi hk
  have HR := hidden (RowZ.lit w w.heap.size rfl #[] rfl)
  have HB := hidden ((Below.refl w.heap.size w).alloc (Nat.le_refl _) (.cells #[] 3))
  generalize L.length = n at *
  clear h hk
  go_enter Tryz.func94, Tryz.ntmps94
  go_wp2
  go_ret
  exact ⟨_, rfl, HR.out, HB.out⟩
set_option maxRecDepth 100000 in
theorem rendUn {i j : Nat} {last : Bool} {k : Int} {X : List Int} (hi : i < L.length) (hk : (L.getD i default).k = k) (hk2 : k = 5 ∨ k = 6 ∨ k = 7) (hj : j + 1 = i) (hl : L.length ≤ 1000) (HA : TellZ b off cap L last j X) : TellZ b off cap L last i X := by
  intro w h
  have c0 := h.kind hi hk
  have HAA := hidden (HA w h)
  have hsub : IntKind.i64.wrap ((i : Int) - 1) = j := by rw [IntKind.wrap_i64]; omega
  generalize L.length = n at *
  clear h hk hj HA
  rcases hk2 with rfl | rfl | rfl
  all_goals
    go_enter Tryz.func94, Tryz.ntmps94
    go_wp2_with fail
    refine HAA.out.mono ?_
    rintro e w1 ⟨v, rfl, hr, hb⟩
    go_wp2
    go_ret
    exact ⟨_, rfl, hr, hb⟩
set_option maxHeartbeats 4000000 in
set_option maxRecDepth 100000 in
theorem rendCatL {i j y l : Nat} {X Y : List Int} {f : Bool} (hi : i < L.length) (hk : (L.getD i default).k = 3) (hj : j + 1 = i) (hy : l + 1 = y) (hl : L.length ≤ 1000) (hyl : y ≤ 1000) (hX : X.length ≤ 1000) (hY : Y.length ≤ 1000)
    (HA : TellZ b off cap L true l X) (HC : TellZ b off cap L true j Y) (HB : Begins b off cap L j y) (HF : Tell b off cap L 113 j (.bool f)) : TellZ b off cap L true i (if f then X ++ Y else Y) := by
  intro w h
  have c0 := h.kind hi hk
  have HLY := hidden h
  have HAA := hidden HA
  have HCC := hidden HC
  have HBB := hidden HB
  have HFF := hidden HF
  have hsub : IntKind.i64.wrap ((i : Int) - 1) = j := by rw [IntKind.wrap_i64]; omega
  have hsub2 : IntKind.i64.wrap ((y : Int) - 1) = l := by rw [IntKind.wrap_i64]; omega
  generalize hn : L.length = n at *
  have HNN := hidden hn
  clear h hk hj HA HC HB HF hy hn
  cases f
  case false =>
    rw [if_neg (by decide)]
    go_enter Tryz.func94, Tryz.ntmps94
    go_wp2_with fail
    rw [← HNN.out]
    refine (HCC.out w HLY.out).mono ?_
    rintro e w1 ⟨vb, rfl, hr1, hb1⟩
    have HR1 := hidden hr1
    have HB1 := hidden hb1
    have HL1 := hidden (HLY.out.below hb1)
    obtain ⟨a1, c1, rfl⟩ := hr1.form
    rw [HNN.out]
    clear hr1 hb1
    go_wp2_with fail
    rw [← HNN.out]
    refine (HBB.out w1 HL1.out).mono ?_
    rintro e w2 ⟨rfl, rfl⟩
    rw [HNN.out]
    go_wp2_with fail
    rw [← HNN.out]
    refine (HAA.out w1 HL1.out).mono ?_
    rintro e w2 ⟨va, rfl, hr2, hb2⟩
    have HR2 := hidden hr2
    have HR1' := hidden (HR1.out.kept hb2)
    have HB2 := hidden (below_after HB1.out hb2)
    have HL2 := hidden (HL1.out.below hb2)
    obtain ⟨a2, c2, rfl⟩ := hr2.form
    rw [HNN.out]
    clear hr2 hb2
    go_wp2_with fail
    rw [← HNN.out]
    refine (HFF.out w2 HL2.out).mono ?_
    rintro e w3 ⟨rfl, rfl⟩
    rw [HNN.out]
    go_wp2
    go_ret
    exact ⟨_, rfl, HR1'.out, HB2.out⟩
  case true =>
    rw [if_pos rfl]
    go_enter Tryz.func94, Tryz.ntmps94
    go_wp2_with fail
    rw [← HNN.out]
    refine (HCC.out w HLY.out).mono ?_
    rintro e w1 ⟨vb, rfl, hr1, hb1⟩
    have HR1 := hidden hr1
    have HB1 := hidden hb1
    have HL1 := hidden (HLY.out.below hb1)
    obtain ⟨a1, c1, rfl⟩ := hr1.form
    rw [HNN.out]
    clear hr1 hb1
    go_wp2_with fail
    rw [← HNN.out]
    refine (HBB.out w1 HL1.out).mono ?_
    rintro e w2 ⟨rfl, rfl⟩
    rw [HNN.out]
    go_wp2_with fail
    rw [← HNN.out]
    refine (HAA.out w1 HL1.out).mono ?_
    rintro e w2 ⟨va, rfl, hr2, hb2⟩
    have HR2 := hidden hr2
    have HR1' := hidden (HR1.out.kept hb2)
    have HB2 := hidden (below_after HB1.out hb2)
    have HL2 := hidden (HL1.out.below hb2)
    obtain ⟨a2, c2, rfl⟩ := hr2.form
    rw [HNN.out]
    clear hr2 hb2
    go_wp2_with fail
    rw [← HNN.out]
    refine (HFF.out w2 HL2.out).mono ?_
    rintro e w3 ⟨rfl, rfl⟩
    rw [HNN.out]
    go_wp2_with (at_builtin; refine app_zz rfl _ _ rfl rfl (HR2.out.lower HB1.out.size) rfl HR1'.out.reads (by omega) HB2.out.size ?_; intro a3 l3 c3 w4 hr4 hg4 hb4; have HR4 := hidden hr4; have HB4 := hidden (show Below w.heap.size w w4 from HB2.out.trans (hb4.mono (Nat.le_refl _))); clear hr4 hg4 hb4)
    go_ret
    exact ⟨_, rfl, HR4.out, HB4.out⟩
set_option maxHeartbeats 4000000 in
set_option maxRecDepth 100000 in
theorem rendCatF {i j y l : Nat} {X Y : List Int} {f : Bool} (hi : i < L.length) (hk : (L.getD i default).k = 3) (hj : j + 1 = i) (hy : l + 1 = y) (hl : L.length ≤ 1000) (hyl : y ≤ 1000) (hX : X.length ≤ 1000) (hY : Y.length ≤ 1000)
    (HA : TellZ b off cap L false l X) (HC : TellZ b off cap L false j Y) (HB : Begins b off cap L j y) (HF : Tell b off cap L 113 l (.bool f)) : TellZ b off cap L false i (if f then X ++ Y else X) := by
  intro w h
  have c0 := h.kind hi hk
  have HLY := hidden h
  have HAA := hidden HA
  have HCC := hidden HC
  have HBB := hidden HB
  have HFF := hidden HF
  have hsub : IntKind.i64.wrap ((i : Int) - 1) = j := by rw [IntKind.wrap_i64]; omega
  have hsub2 : IntKind.i64.wrap ((y : Int) - 1) = l := by rw [IntKind.wrap_i64]; omega
  generalize hn : L.length = n at *
  have HNN := hidden hn
  clear h hk hj HA HC HB HF hy hn
  cases f
  case false =>
    rw [if_neg (by decide)]
    go_enter Tryz.func94, Tryz.ntmps94
    go_wp2_with fail
    rw [← HNN.out]
    refine (HCC.out w HLY.out).mono ?_
    rintro e w1 ⟨vb, rfl, hr1, hb1⟩
    have HR1 := hidden hr1
    have HB1 := hidden hb1
    have HL1 := hidden (HLY.out.below hb1)
    obtain ⟨a1, c1, rfl⟩ := hr1.form
    rw [HNN.out]
    clear hr1 hb1
    go_wp2_with fail
    rw [← HNN.out]
    refine (HBB.out w1 HL1.out).mono ?_
    rintro e w2 ⟨rfl, rfl⟩
    rw [HNN.out]
    go_wp2_with fail
    rw [← HNN.out]
    refine (HAA.out w1 HL1.out).mono ?_
    rintro e w2 ⟨va, rfl, hr2, hb2⟩
    have HR2 := hidden hr2
    have HR1' := hidden (HR1.out.kept hb2)
    have HB2 := hidden (below_after HB1.out hb2)
    have HL2 := hidden (HL1.out.below hb2)
    obtain ⟨a2, c2, rfl⟩ := hr2.form
    rw [HNN.out]
    clear hr2 hb2
    go_wp2_with fail
    rw [← HNN.out]
    refine (HFF.out w2 HL2.out).mono ?_
    rintro e w3 ⟨rfl, rfl⟩
    rw [HNN.out]
    go_wp2
    go_ret
    exact ⟨_, rfl, HR2.out.lower HB1.out.size, HB2.out⟩
  case true =>
    rw [if_pos rfl]
    go_enter Tryz.func94, Tryz.ntmps94
    go_wp2_with fail
    rw [← HNN.out]
    refine (HCC.out w HLY.out).mono ?_
    rintro e w1 ⟨vb, rfl, hr1, hb1⟩
    have HR1 := hidden hr1
    have HB1 := hidden hb1
    have HL1 := hidden (HLY.out.below hb1)
    obtain ⟨a1, c1, rfl⟩ := hr1.form
    rw [HNN.out]
    clear hr1 hb1
    go_wp2_with fail
    rw [← HNN.out]
    refine (HBB.out w1 HL1.out).mono ?_
    rintro e w2 ⟨rfl, rfl⟩
    rw [HNN.out]
    go_wp2_with fail
    rw [← HNN.out]
    refine (HAA.out w1 HL1.out).mono ?_
    rintro e w2 ⟨va, rfl, hr2, hb2⟩
    have HR2 := hidden hr2
    have HR1' := hidden (HR1.out.kept hb2)
    have HB2 := hidden (below_after HB1.out hb2)
    have HL2 := hidden (HL1.out.below hb2)
    obtain ⟨a2, c2, rfl⟩ := hr2.form
    rw [HNN.out]
    clear hr2 hb2
    go_wp2_with fail
    rw [← HNN.out]
    refine (HFF.out w2 HL2.out).mono ?_
    rintro e w3 ⟨rfl, rfl⟩
    rw [HNN.out]
    go_wp2_with (at_builtin; refine app_zz rfl _ _ rfl rfl (HR2.out.lower HB1.out.size) rfl HR1'.out.reads (by omega) HB2.out.size ?_; intro a3 l3 c3 w4 hr4 hg4 hb4; have HR4 := hidden hr4; have HB4 := hidden (show Below w.heap.size w w4 from HB2.out.trans (hb4.mono (Nat.le_refl _))); clear hr4 hg4 hb4)
    go_ret
    exact ⟨_, rfl, HR4.out, HB4.out⟩
set_option maxHeartbeats 4000000 in
set_option maxRecDepth 100000 in
theorem rendAlt {i j y l : Nat} {X Y : List Int} {last : Bool} (hi : i < L.length) (hk : (L.getD i default).k = 4) (hj : j + 1 = i) (hy : l + 1 = y) (hl : L.length ≤ 1000) (hyl : y ≤ 1000) (hX : X.length ≤ 1000) (hY : Y.length ≤ 1000)
    (HA : TellZ b off cap L last l X) (HC : TellZ b off cap L last j Y) (HB : Begins b off cap L j y)  : TellZ b off cap L last i (X ++ Y) := by
  intro w h
  have c0 := h.kind hi hk
  have HLY := hidden h
  have HAA := hidden HA
  have HCC := hidden HC
  have HBB := hidden HB
  have hsub : IntKind.i64.wrap ((i : Int) - 1) = j := by rw [IntKind.wrap_i64]; omega
  have hsub2 : IntKind.i64.wrap ((y : Int) - 1) = l := by rw [IntKind.wrap_i64]; omega
  generalize hn : L.length = n at *
  have HNN := hidden hn
  clear h hk hj HA HC HB hy hn
  cases last
  all_goals
    go_enter Tryz.func94, Tryz.ntmps94
    go_wp2_with fail
    rw [← HNN.out]
    refine (HCC.out w HLY.out).mono ?_
    rintro e w1 ⟨vb, rfl, hr1, hb1⟩
    have HR1 := hidden hr1
    have HB1 := hidden hb1
    have HL1 := hidden (HLY.out.below hb1)
    obtain ⟨a1, c1, rfl⟩ := hr1.form
    rw [HNN.out]
    clear hr1 hb1
    go_wp2_with fail
    rw [← HNN.out]
    refine (HBB.out w1 HL1.out).mono ?_
    rintro e w2 ⟨rfl, rfl⟩
    rw [HNN.out]
    go_wp2_with fail
    rw [← HNN.out]
    refine (HAA.out w1 HL1.out).mono ?_
    rintro e w2 ⟨va, rfl, hr2, hb2⟩
    have HR2 := hidden hr2
    have HR1' := hidden (HR1.out.kept hb2)
    have HB2 := hidden (below_after HB1.out hb2)
    have HL2 := hidden (HL1.out.below hb2)
    obtain ⟨a2, c2, rfl⟩ := hr2.form
    rw [HNN.out]
    clear hr2 hb2
    go_wp2_with (at_builtin; refine app_zz rfl _ _ rfl rfl (HR2.out.lower HB1.out.size) rfl HR1'.out.reads (by omega) HB2.out.size ?_; intro a3 l3 c3 w4 hr4 hg4 hb4; have HR4 := hidden hr4; have HB4 := hidden (show Below w.heap.size w w4 from HB2.out.trans (hb4.mono (Nat.le_refl _))); clear hr4 hg4 hb4)
    go_ret
    exact ⟨_, rfl, HR4.out, HB4.out⟩
theorem spI_append (a b : List Nat) : spI (a ++ b) = spI a ++ spI b := by unfold spI; exact List.map_append
theorem spI_nil : spI [] = [] := by unfold spI; rfl
theorem spI_one (n : Nat) : spI [n] = [(n : Int)] := by unfold spI; rfl
theorem cnt_part {x y : List Stp} : cnt (x ++ y) x.length = (sets x).length := by
  unfold cnt
  rw [List.take_left]
theorem part_len {e : Ex} {x z : List Stp} {last : Bool} {n : Nat} (hL : L = x ++ ops e ++ z) (hl : L.length ≤ 1000) : (spI (endE last e n)).length ≤ 1000 := by
  rw [spI_len]
  have h1 := endE_len last e n
  have h2 := plc_ops e
  have h3 := ops_pos e
  rw [hL] at hl
  simp only [List.length_append] at hl
  omega
theorem rends (last : Bool) (hl : L.length ≤ 512) (hc : L.length ≤ cap) (hm : cap ≤ maxLen) : ∀ (e : Ex), e.ok → ∀ (x z : List Stp) (i : Nat), L = x ++ ops e ++ z → i + 1 = x.length + (ops e).length → TellZ b off cap L last i (spI (endE last e (sets x).length))
  | .set f, _, x, z, i, hL, hi => by
    have hi' : i = x.length := by simp [ops] at hi; omega
    have h1 := at_end hL hi
    rw [endE, spI_one]
    refine rendSet h1.1 h1.2 hl hc hm ?_
    rw [hi', hL, List.append_assoc]
    exact cnt_part
  | .emp, _, x, z, i, hL, hi => by
    rw [endE, spI_nil]
    exact rendEmp (at_end hL hi).1 (at_end hL hi).2
  | .un k a, ⟨hk, ha⟩, x, z, i, hL, hi => by
    obtain ⟨h1, h2⟩ := at_end hL hi
    have hp := ops_pos a
    have hlen : (ops (.un k a)).length = (ops a).length + 1 := by simp [ops]
    exact rendUn (j := i - 1) h1 h2 hk (by omega) (by omega) (rends last hl hc hm a ha x ([kStp k] ++ z) (i - 1) (by rw [hL]; simp [ops]) (by omega))
  | .cat a c, ⟨ha, hcc⟩, x, z, i, hL, hi => by
    obtain ⟨h1, h2⟩ := at_end hL hi
    obtain ⟨⟨p1, p2⟩, ⟨p3, p4⟩, p5, p6, p7⟩ := two_parts (k := 3) (a := a) (c := c) rfl hL hi
    have hs : (sets (x ++ ops a)).length = (sets x).length + plc a := by rw [sets_append, List.length_append, sets_ops a ha]
    have HC := rends last hl hc hm c hcc _ _ _ p1 p2
    rw [hs] at HC
    have HA := rends last hl hc hm a ha _ _ _ p3 p4
    cases last
    · have := rendCatF (b := b) (off := off) (cap := cap) h1 h2 p5 p6 (by omega) (by omega) (part_len p3 (by omega)) (part_len p1 (by omega)) HA HC (begins hcc (by omega) p1 p2) (rfree (by omega) a ha _ _ _ p3 p4)
      simp only [endE]
      rw [if_neg (by decide)]
      split
      · rename_i hn
        rw [if_pos hn] at this
        rw [spI_append]; exact this
      · rename_i hn
        rw [if_neg hn] at this
        exact this
    · have := rendCatL (b := b) (off := off) (cap := cap) h1 h2 p5 p6 (by omega) (by omega) (part_len p3 (by omega)) (part_len p1 (by omega)) HA HC (begins hcc (by omega) p1 p2) (rfree (by omega) c hcc _ _ _ p1 p2)
      simp only [endE]
      rw [if_pos trivial]
      split
      · rename_i hn
        rw [if_pos hn] at this
        rw [spI_append]; exact this
      · rename_i hn
        rw [if_neg hn] at this
        exact this
  | .alt a c, ⟨ha, hcc⟩, x, z, i, hL, hi => by
    obtain ⟨h1, h2⟩ := at_end hL hi
    obtain ⟨⟨p1, p2⟩, ⟨p3, p4⟩, p5, p6, p7⟩ := two_parts (k := 4) (a := a) (c := c) rfl hL hi
    have hs : (sets (x ++ ops a)).length = (sets x).length + plc a := by rw [sets_append, List.length_append, sets_ops a ha]
    have HC := rends last hl hc hm c hcc _ _ _ p1 p2
    rw [hs] at HC
    have HA := rends last hl hc hm a ha _ _ _ p3 p4
    have := rendAlt (b := b) (off := off) (cap := cap) h1 h2 p5 p6 (by omega) (by omega) (part_len p3 (by omega)) (part_len p1 (by omega)) HA HC (begins hcc (by omega) p1 p2)
    simp only [endE]
    rw [spI_append]; exact this
end
end Go.Proofs.YtnjjbaodfjmiaaaGreat
