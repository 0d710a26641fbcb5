/- TxtTree, TxtForm, put together. -/
import Derived.Test.YthkboclooplpeaaGreatDoorRf04
import Derived.Test.YthkboclooplpeaaGreatDoorRf03
/- Expressions as trees, printed, and the reader that keeps operators waiting: what is printed is read as it. Of no program. -/
namespace Go.Proofs.YthkboclooplpeaaGreatDoor

def sStp (f : Nat → Bool) : Stp := ⟨1, word f 0, word f 1, word f 2, word f 3⟩
theorem sStp_congr {f g : Nat → Bool} (h : ∀ n, n < 256 → f n = g n) : sStp f = sStp g := by
  unfold sStp
  rw [word_ext h 0 (by decide), word_ext h 1 (by decide), word_ext h 2 (by decide), word_ext h 3 (by decide)]
inductive Ex where
  | set (f : Nat → Bool)
  | emp
  | cat (a b : Ex)
  | alt (a b : Ex)
  | un (k : Int) (a : Ex)
def Ex.kind : Ex → Int
  | .set _ => 1
  | .emp => 2
  | .cat _ _ => 3
  | .alt _ _ => 4
  | .un k _ => k
def Ex.ok : Ex → Prop
  | .set _ => True
  | .emp => True
  | .cat a b => a.ok ∧ b.ok
  | .alt a b => a.ok ∧ b.ok
  | .un k a => (k = 5 ∨ k = 6 ∨ k = 7) ∧ a.ok
def ops : Ex → List Stp
  | .set f => [sStp f]
  | .emp => [kStp 2]
  | .cat a b => ops a ++ ops b ++ [kStp 3]
  | .alt a b => ops a ++ ops b ++ [kStp 4]
  | .un k a => ops a ++ [kStp k]
/-! ### the reader -/
/-! ### what is printed is read -/
end Go.Proofs.YthkboclooplpeaaGreatDoor

/- Valid lists of steps are those of one tree; how long its text is. Of no program. -/
namespace Go.Proofs.YthkboclooplpeaaGreatDoor

/-- the words of a step are words -/
def Stp.wide (s : Stp) : Prop := (0 ≤ s.a ∧ s.a ≤ 18446744073709551615) ∧ (0 ≤ s.b ∧ s.b ≤ 18446744073709551615) ∧ (0 ≤ s.c ∧ s.c ≤ 18446744073709551615) ∧ (0 ≤ s.d ∧ s.d ≤ 18446744073709551615)
def bitsE (s : Stp) : Nat → Bool := mem s.a.toNat s.b.toNat s.c.toNat s.d.toNat
theorem bitsE_step {s : Stp} (hk : s.k = 1) (hw : s.wide) : s = sStp (bitsE s) := by
  obtain ⟨h1, h2, h3, h4⟩ := hw
  obtain ⟨m0, m1, m2, m3⟩ := word_mem (a := s.a.toNat) (b := s.b.toNat) (c := s.c.toNat) (d := s.d.toNat) (by omega) (by omega) (by omega) (by omega)
  obtain ⟨k, a, b, c, d⟩ := s
  unfold sStp bitsE
  simp only at hk h1 h2 h3 h4 m0 m1 m2 m3 ⊢
  rw [m0, m1, m2, m3, hk]
  simp only [Stp.mk.injEq, true_and]
  omega
theorem bitsE_words {s : Stp} (hw : s.wide) : (word (bitsE s) 0 : Int) = s.a ∧ (word (bitsE s) 1 : Int) = s.b ∧ (word (bitsE s) 2 : Int) = s.c ∧ (word (bitsE s) 3 : Int) = s.d := by
  obtain ⟨h1, h2, h3, h4⟩ := hw
  obtain ⟨m0, m1, m2, m3⟩ := word_mem (a := s.a.toNat) (b := s.b.toNat) (c := s.c.toNat) (d := s.d.toNat) (by omega) (by omega) (by omega) (by omega)
  unfold bitsE
  rw [m0, m1, m2, m3]
  omega
/-- a step puts trees together: the last one stands first -/
def pushE (s : Stp) (t : List Ex) : List Ex :=
  if s.k = 1 then .set (bitsE s) :: t else if s.k = 2 then .emp :: t else
  if s.k = 3 then (match t with | b :: a :: r => .cat a b :: r | _ => t) else
  if s.k = 4 then (match t with | b :: a :: r => .alt a b :: r | _ => t) else (match t with | a :: r => .un s.k a :: r | _ => t)
def treeGo : List Stp → List Ex → List Ex
  | [], t => t
  | s :: r, t => treeGo r (pushE s t)
theorem treeGo_append : ∀ (a b : List Stp) (t : List Ex), treeGo (a ++ b) t = treeGo b (treeGo a t)
  | [], _, _ => rfl
  | s :: r, b, t => treeGo_append r b (pushE s t)
def trees (L : List Stp) (k : Nat) : List Ex := (treeGo (L.take k) []).reverse
def treeE (L : List Stp) : Ex := (treeGo L []).headD .emp
/-- what a step does to the trees, the last one standing last -/
inductive Next (s : Stp) : List Ex → List Ex → Prop
  | set (r) (h : s.k = 1) (e : s = sStp (bitsE s)) : Next s r (r ++ [.set (bitsE s)])
  | emp (r) (e : s = kStp 2) : Next s r (r ++ [.emp])
  | cat (r a b) (e : s = kStp 3) : Next s (r ++ [a, b]) (r ++ [.cat a b])
  | alt (r a b) (e : s = kStp 4) : Next s (r ++ [a, b]) (r ++ [.alt a b])
  | un (r a) (e : s = kStp s.k) (h : s.k = 5 ∨ s.k = 6 ∨ s.k = 7) : Next s (r ++ [a]) (r ++ [.un s.k a])
theorem ops_expr : ∀ e : Ex, e.ok → Expr (ops e)
  | .set f, _ => by
    refine ⟨⟨⟨by show 0 ≤ kOps 1; decide, .inl rfl⟩, by show kOps 1 ≤ 0; decide, trivial⟩, ?_⟩
    show (1 - kOps 1) + 0 = 1
    decide
  | .emp, _ => by
    refine ⟨⟨⟨by show 0 ≤ kOps 2; decide, .inr ⟨rfl, rfl, rfl, rfl⟩⟩, by show kOps 2 ≤ 0; decide, trivial⟩, ?_⟩
    show (1 - kOps 2) + 0 = 1
    decide
  | .cat a b, ⟨ha, hb⟩ => expr_two (ops_expr a ha) (ops_expr b hb) (.inl rfl)
  | .alt a b, ⟨ha, hb⟩ => expr_two (ops_expr a ha) (ops_expr b hb) (.inr rfl)
  | .un k a, ⟨hk, ha⟩ => expr_one (ops_expr a ha) hk
theorem flat_net : ∀ es : List Ex, (∀ e ∈ es, e.ok) → net (es.flatMap ops) = es.length
  | [], _ => rfl
  | e :: r, h => by
    rw [List.flatMap_cons, net_append, (ops_expr e (h e (by simp))).2, flat_net r fun x hx => h x (by simp [hx])]
    simp only [List.length_cons]
    omega
/-- trees of a list of steps -/
def Forms (L : List Stp) (es : List Ex) : Prop := es.flatMap ops = L ∧ ∀ e ∈ es, e.ok
theorem Forms.put {L : List Stp} {r q : List Ex} {e : Ex} {s : Stp} (h : Forms L (r ++ q)) (he : e.ok) (ho : ops e = q.flatMap ops ++ [s]) : Forms (L ++ [s]) (r ++ [e]) := by
  refine ⟨?_, fun x hx => ?_⟩
  · rw [← h.1]
    simp [ho]
  · simp only [List.mem_append, List.mem_singleton] at hx
    rcases hx with hx | rfl
    · exact h.2 x (by simp [hx])
    · exact he
theorem kind_cases {k : Int} (h : 0 ≤ kOps k) : k = 1 ∨ k = 2 ∨ k = 3 ∨ k = 4 ∨ (k = 5 ∨ k = 6 ∨ k = 7) := by
  unfold kOps at h
  split at h
  · omega
  · split at h
    · omega
    · split at h
      · omega
      · omega
theorem next_of {L : List Stp} {k : Nat} (hk : k < L.length) (hG : Goes L 0) (hw : ∀ s ∈ L, s.wide) (hF : Forms (L.take k) (trees L k)) :
    Next (L.getD k default) (trees L k) (trees L (k + 1)) ∧ Forms (L.take (k + 1)) (trees L (k + 1)) := by
  have hget : L.getD k default = L[k] := by rw [List.getD_eq_getElem?_getD, List.getElem?_eq_getElem hk]; rfl
  have htk : L.take (k + 1) = L.take k ++ [L[k]] := (List.take_append_getElem hk).symm
  have htr : trees L (k + 1) = (pushE L[k] (treeGo (L.take k) [])).reverse := by
    unfold trees
    rw [htk, treeGo_append]
    rfl
  have hsp : L = L.take k ++ (L[k] :: L.drop (k + 1)) := by
    rw [List.getElem_cons_drop, List.take_append_drop]
  have hG2 := hG
  rw [hsp, goes_append] at hG2
  obtain ⟨⟨hg0, hpl⟩, hle, _⟩ := hG2.2
  rw [← hF.1, flat_net _ hF.2] at hle
  have hwd := hw L[k] (List.getElem_mem hk)
  rw [hget, htr, htk]
  unfold trees at hF hle ⊢
  generalize treeGo (L.take k) [] = t at *
  generalize L[k] = s at *
  generalize L.take k = M at *
  rw [List.length_reverse] at hle
  have hko : ∀ j, s.k = j → j ≠ 1 → s = kStp j := fun j hj h1 => by
    rcases hpl with h | ⟨h2, h3, h4, h5⟩
    · omega
    · obtain ⟨k', a', b', c', d'⟩ := s
      simp only at hj h2 h3 h4 h5
      subst hj h2 h3 h4 h5
      rfl
  rcases kind_cases hg0 with h | h | h | h | h
  · have hs := bitsE_step h hwd
    unfold pushE
    rw [if_pos h, List.reverse_cons]
    exact ⟨.set _ h hs, Forms.put (q := []) (by simpa using hF) trivial (by simpa [ops] using hs.symm)⟩
  · have hs := hko 2 h (by decide)
    unfold pushE
    rw [if_neg (by omega), if_pos h, List.reverse_cons]
    exact ⟨.emp _ hs, Forms.put (q := []) (by simpa using hF) trivial (by simpa [ops] using hs.symm)⟩
  · have hs := hko 3 h (by decide)
    rw [h, show kOps 3 = 2 from rfl] at hle
    match t, hle with
    | b :: a :: r, _ =>
      unfold pushE
      rw [if_neg (by omega), if_neg (by omega), if_pos h]
      simp only [List.reverse_cons, List.append_assoc, List.cons_append, List.nil_append] at hF ⊢
      refine ⟨.cat _ a b hs, Forms.put (q := [a, b]) hF ⟨hF.2 a (by simp), hF.2 b (by simp)⟩ ?_⟩
      rw [hs]
      simp [ops]
    | [a], hle => simp at hle
    | [], hle => simp at hle
  · have hs := hko 4 h (by decide)
    rw [h, show kOps 4 = 2 from rfl] at hle
    match t, hle with
    | b :: a :: r, _ =>
      unfold pushE
      rw [if_neg (by omega), if_neg (by omega), if_neg (by omega), if_pos h]
      simp only [List.reverse_cons, List.append_assoc, List.cons_append, List.nil_append] at hF ⊢
      refine ⟨.alt _ a b hs, Forms.put (q := [a, b]) hF ⟨hF.2 a (by simp), hF.2 b (by simp)⟩ ?_⟩
      rw [hs]
      simp [ops]
    | [a], hle => simp at hle
    | [], hle => simp at hle
  · have hs := hko s.k rfl (by omega)
    have h1 : kOps s.k = 1 := by rcases h with h | h | h <;> rw [h] <;> rfl
    rw [h1] at hle
    match t, hle with
    | a :: r, _ =>
      unfold pushE
      rw [if_neg (by omega), if_neg (by omega), if_neg (by omega), if_neg (by omega)]
      simp only [List.reverse_cons] at hF ⊢
      refine ⟨.un _ a hs h, Forms.put (q := [a]) hF ⟨h, hF.2 a (by simp)⟩ ?_⟩
      simp [ops, ← hs]
    | [], hle => simp at hle
theorem forms_nil (L : List Stp) : Forms (L.take 0) (trees L 0) := ⟨rfl, by simp [trees, treeGo]⟩
theorem forms_at {L : List Stp} (hG : Goes L 0) (hw : ∀ s ∈ L, s.wide) : ∀ k, k ≤ L.length → Forms (L.take k) (trees L k)
  | 0, _ => forms_nil L
  | k + 1, h => (next_of (by omega) hG hw (forms_at hG hw k (by omega))).2
/-- A LIST THAT IS AN EXPRESSION: the steps of its tree, and of no other trees -/
theorem tree_of {L : List Stp} (hE : Expr L) (hw : ∀ s ∈ L, s.wide) : trees L L.length = [treeE L] ∧ (treeE L).ok ∧ ops (treeE L) = L := by
  have h := forms_at hE.1 hw L.length (Nat.le_refl _)
  have hn := flat_net _ h.2
  rw [h.1, List.take_length, hE.2] at hn
  unfold trees treeE at *
  rw [List.take_length] at *
  generalize treeGo L [] = t at *
  rw [List.length_reverse] at hn
  match t, hn with
  | [e], _ =>
    refine ⟨rfl, h.2 e (by simp), ?_⟩
    simpa using h.1
  | [], hn => simp at hn
  | a :: b :: r, hn => simp at hn; omega
end Go.Proofs.YthkboclooplpeaaGreatDoor
