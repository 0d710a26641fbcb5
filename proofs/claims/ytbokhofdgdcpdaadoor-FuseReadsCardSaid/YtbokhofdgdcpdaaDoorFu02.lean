/- RxMath, TxtTree, TxtForm, put together. -/
import Derived.Test.YtbokhofdgdcpdaaDoorFu01
/- Lists of steps: what they come to, without the program. -/
namespace Go.Proofs.YtbokhofdgdcpdaaDoor

/-- one step: its kind, and the four words of its set -/
structure Stp where
  k : Int
  a : Int
  b : Int
  c : Int
  d : Int
instance stp_one : Inhabited Stp := ⟨⟨0, 0, 0, 0, 0⟩⟩
def Stp.val (s : Stp) : Value := .agg #[.int .i64 s.k, .int .u64 s.a, .int .u64 s.b, .int .u64 s.c, .int .u64 s.d]
def Stp.cells (s : Stp) : List Value := [.int .i64 s.k, .int .u64 s.a, .int .u64 s.b, .int .u64 s.c, .int .u64 s.d]
/-- a step of a kind, without a set -/
def kStp (k : Int) : Stp := ⟨k, 0, 0, 0, 0⟩
/-- of how many parts a kind is -/
def kOps (k : Int) : Int := if k = 1 ∨ k = 2 then 0 else if k = 3 ∨ k = 4 then 2 else if k = 5 ∨ k = 6 ∨ k = 7 then 1 else -1
theorem kOps_range (k : Int) : -1 ≤ kOps k ∧ kOps k ≤ 2 := by
  unfold kOps
  split <;> (try split) <;> (try split) <;> omega
def Stp.plain (s : Stp) : Prop := s.k = 1 ∨ (s.a = 0 ∧ s.b = 0 ∧ s.c = 0 ∧ s.d = 0)
instance plain_dec (s : Stp) : Decidable s.plain := by unfold Stp.plain; infer_instance
def Stp.good (s : Stp) : Prop := 0 ≤ kOps s.k ∧ s.plain
instance good_dec (s : Stp) : Decidable s.good := by unfold Stp.good; infer_instance
/-- the greatest number of parts, and what is wrong -/
def measGo : List Stp → Int → Int → Int × Int
  | [], p, h => if p = 1 then (h, 0) else (0, 3)
  | s :: r, p, h => if s.good then (if p < kOps s.k then (0, 3) else measGo r (p + (1 - kOps s.k)) (max h (p + (1 - kOps s.k)))) else (0, 1)
def measV (l : List Stp) : Int × Int := if 512 < l.length then (0, 4) else measGo l 0 0
/-- where the part begins that ends ahead of step n, where m parts are missing -/
def begGo (l : List Stp) : Nat → Int → Int
  | 0, _ => -1
  | n + 1, m => if kOps (l.getD n default).k < 0 then -1 else if m + (kOps (l.getD n default).k - 1) = 0 then n else begGo l n (m + (kOps (l.getD n default).k - 1))
def begV (l : List Stp) (i : Int) : Int := if i < 0 ∨ (l.length : Int) ≤ i then -1 else begGo l (i.toNat + 1) 1

theorem meas_err : ∀ (l : List Stp) (p h : Int), (measGo l p h).2 = 0 ∨ (measGo l p h).2 = 1 ∨ (measGo l p h).2 = 3
  | [], p, h => by
    unfold measGo
    split <;> simp
  | s :: r, p, h => by
    unfold measGo
    split
    · split
      · simp
      · exact meas_err r _ _
    · simp

/-! ### what an expression is: parts at each place -/
/-- how many parts the steps leave -/
def net : List Stp → Int
  | [] => 0
  | s :: r => (1 - kOps s.k) + net r
theorem net_append : ∀ a b, net (a ++ b) = net a + net b
  | [], b => by simp [net]
  | s :: r, b => by
    simp only [List.cons_append, net, net_append r b]
    omega
/-- the steps go through behind p parts -/
def Goes : List Stp → Int → Prop
  | [], _ => True
  | s :: r, p => s.good ∧ kOps s.k ≤ p ∧ Goes r (p + (1 - kOps s.k))
/-- the greatest number of parts behind p of them -/
def peak : List Stp → Int → Int → Int
  | [], _, h => h
  | s :: r, p, h => peak r (p + (1 - kOps s.k)) (max h (p + (1 - kOps s.k)))
theorem goes_meas : ∀ (l : List Stp) (p h : Int), Goes l p → measGo l p h = if p + net l = 1 then (peak l p h, 0) else (0, 3)
  | [], p, h, _ => by simp [measGo, net, peak]
  | s :: r, p, h, ⟨h1, h2, h3⟩ => by
    rw [measGo, if_pos h1, if_neg (by omega), goes_meas r _ _ h3]
    have e : p + (1 - kOps s.k) + net r = p + net (s :: r) := by
      simp only [net]
      omega
    rw [e]
    rfl
theorem meas_goes : ∀ (l : List Stp) (p h : Int), (measGo l p h).2 = 0 → Goes l p ∧ p + net l = 1
  | [], p, h, e => by
    refine ⟨trivial, ?_⟩
    unfold measGo at e
    split at e
    · simpa [net]
    · simp at e
  | s :: r, p, h, e => by
    unfold measGo at e
    split at e
    · rename_i hg
      split at e
      · simp at e
      · have := meas_goes r _ _ e
        refine ⟨⟨hg, by omega, this.1⟩, ?_⟩
        simp only [net]
        omega
    · simp at e
theorem goes_append : ∀ (a b : List Stp) (p : Int), Goes (a ++ b) p ↔ Goes a p ∧ Goes b (p + net a)
  | [], b, p => by simp [Goes, net]
  | s :: r, b, p => by
    simp only [List.cons_append, Goes, goes_append r b, net]
    rw [show p + (1 - kOps s.k) + net r = p + (1 - kOps s.k + net r) by omega]
    constructor
    · rintro ⟨h1, h2, h3, h4⟩
      exact ⟨⟨h1, h2, h3⟩, h4⟩
    · rintro ⟨⟨h1, h2, h3⟩, h4⟩
      exact ⟨h1, h2, h3, h4⟩
theorem goes_more : ∀ (a : List Stp) (p q : Int), Goes a p → p ≤ q → Goes a q
  | [], _, _, _, _ => trivial
  | s :: r, p, q, ⟨h1, h2, h3⟩, h => ⟨h1, by omega, goes_more r _ _ h3 (by omega)⟩
theorem peak_append : ∀ (a b : List Stp) (p h : Int), peak (a ++ b) p h = peak b (p + net a) (peak a p h)
  | [], b, p, h => by simp [peak, net]
  | s :: r, b, p, h => by
    simp only [List.cons_append, peak, peak_append r b, net]
    rw [show p + (1 - kOps s.k) + net r = p + (1 - kOps s.k + net r) by omega]
theorem peak_max : ∀ (a : List Stp) (p h g : Int), peak a p (max h g) = max (peak a p h) g
  | [], p, h, g => rfl
  | s :: r, p, h, g => by
    simp only [peak]
    rw [show max (max h g) (p + (1 - kOps s.k)) = max (max h (p + (1 - kOps s.k))) g by omega]
    exact peak_max r _ _ _
theorem peak_shift : ∀ (a : List Stp) (p h q : Int), peak a (p + q) (h + q) = peak a p h + q
  | [], p, h, q => rfl
  | s :: r, p, h, q => by
    simp only [peak]
    have := peak_shift r (p + (1 - kOps s.k)) (max h (p + (1 - kOps s.k))) q
    rw [← this]
    congr 1 <;> omega
theorem peak_ge : ∀ (a : List Stp) (p h : Int), h ≤ peak a p h
  | [], p, h => Int.le_refl _
  | s :: r, p, h => by
    have := peak_ge r (p + (1 - kOps s.k)) (max h (p + (1 - kOps s.k)))
    simp only [peak]
    omega
/-- behind each beginning of steps that go through, but the empty one, there is a part -/
theorem goes_part : ∀ (a : List Stp) (p : Int), Goes a p → 0 ≤ p → ∀ n, 0 < n → n ≤ a.length → 1 ≤ p + net (a.take n)
  | [], _, _, _, n, h1, h2 => by simp at h2; omega
  | s :: r, p, ⟨h1, h2, h3⟩, hp, n, hn, hl => by
    obtain ⟨m, rfl⟩ : ∃ m, n = m + 1 := ⟨n - 1, by omega⟩
    simp only [List.take_succ_cons, net]
    have h0 := h1.1
    by_cases hm : m = 0
    · subst hm
      simp [net]
      omega
    · have := goes_part r _ h3 (by omega) m (by omega) (by simpa using hl)
      omega
theorem goes_good : ∀ (a : List Stp) (p : Int), Goes a p → ∀ s ∈ a, s.good
  | [], _, _, s, h => by simp at h
  | x :: r, p, ⟨h1, _, h3⟩, s, h => by
    rcases List.mem_cons.1 h with rfl | h
    · exact h1
    · exact goes_good r _ h3 s h
theorem net_take_more (l : List Stp) (n : Nat) (h : n < l.length) : net (l.take (n + 1)) = net (l.take n) + (1 - kOps (l.getD n default).k) := by
  rw [List.take_succ_eq_append_getElem h, net_append, List.getD_eq_getElem?_getD, List.getElem?_eq_getElem h]
  simp [net]
/-- going back, the part begins where the count falls to what it was -/
theorem beg_at (l : List Stp) (at' e : Nat) (he : e ≤ l.length) (hg : ∀ j, at' ≤ j → j < e → 0 ≤ kOps (l.getD j default).k) (h0 : net (l.take at') + 1 = net (l.take e)) (hbig : ∀ j, at' < j → j < e → net (l.take at') < net (l.take j)) :
    ∀ n, at' < n → n ≤ e → begGo l n (1 - (net (l.take e) - net (l.take n))) = at' := by
  intro n
  induction n with
  | zero => intro h; omega
  | succ n ih =>
    intro h1 h2
    have hk := hg n (by omega) (by omega)
    have hs := net_take_more l n (by omega)
    rw [begGo, if_neg (by omega)]
    have e1 : 1 - (net (l.take e) - net (l.take (n + 1))) + (kOps (l.getD n default).k - 1) = 1 - (net (l.take e) - net (l.take n)) := by omega
    rw [e1]
    by_cases hn : n = at'
    · subst hn
      rw [if_pos (by omega)]
    · have := hbig n (by omega) (by omega)
      rw [if_neg (by omega)]
      exact ih (by omega) (by omega)

/-- an expression -/
def Expr (l : List Stp) : Prop := Goes l 0 ∧ net l = 1
theorem expr_ne {l : List Stp} (h : Expr l) : 0 < l.length := by
  cases l with
  | nil => simp [Expr, net] at h
  | cons s r => simp
theorem meas_expr {l : List Stp} (h : (measV l).2 = 0) : l.length ≤ 512 ∧ Expr l := by
  unfold measV at h
  split at h
  · simp at h
  · have := meas_goes l 0 0 h
    exact ⟨by omega, this.1, by omega⟩
theorem expr_meas {l : List Stp} (h : Expr l) (hl : l.length ≤ 512) : measV l = (peak l 0 0, 0) := by
  unfold measV
  rw [if_neg (by omega), goes_meas l 0 0 h.1, if_pos (by rw [h.2]; rfl)]
theorem expr_two {a b : List Stp} {k : Int} (ha : Expr a) (hb : Expr b) (hk : k = 3 ∨ k = 4) : Expr (a ++ b ++ [kStp k]) := by
  have e : kOps k = 2 := by rcases hk with rfl | rfl <;> decide
  refine ⟨?_, ?_⟩
  · rw [goes_append, goes_append, net_append, ha.2, hb.2]
    refine ⟨⟨ha.1, goes_more b _ _ hb.1 (by decide)⟩, ⟨?_, by simp [kStp, e], trivial⟩⟩
    exact ⟨by simp [kStp, e], .inr ⟨rfl, rfl, rfl, rfl⟩⟩
  · rw [net_append, net_append, ha.2, hb.2]
    simp [net, kStp, e]
theorem expr_one {a : List Stp} {k : Int} (ha : Expr a) (hk : k = 5 ∨ k = 6 ∨ k = 7) : Expr (a ++ [kStp k]) := by
  have e : kOps k = 1 := by rcases hk with rfl | rfl | rfl <;> decide
  refine ⟨?_, ?_⟩
  · rw [goes_append, ha.2]
    refine ⟨ha.1, ⟨?_, by simp [kStp, e], trivial⟩⟩
    exact ⟨by simp [kStp, e], .inr ⟨rfl, rfl, rfl, rfl⟩⟩
  · rw [net_append, ha.2]
    simp [net, kStp, e]
theorem peak_ge1 {a : List Stp} (h : Expr a) : 1 ≤ peak a 0 0 := by
  have h1 := expr_ne h
  cases a with
  | nil => simp at h1
  | cons s r =>
    obtain ⟨⟨⟨g1, _⟩, g2, _⟩, _⟩ := h
    have := peak_ge r (0 + (1 - kOps s.k)) (max 0 (0 + (1 - kOps s.k)))
    simp only [peak]
    omega
theorem peak_two {a b : List Stp} {k : Int} (ha : Expr a) (hb : Expr b) (hk : k = 3 ∨ k = 4) : peak (a ++ b ++ [kStp k]) 0 0 = max (peak a 0 0) (peak b 0 0 + 1) := by
  have e : kOps k = 2 := by rcases hk with rfl | rfl <;> decide
  have h1 := peak_ge1 ha
  have h2 := peak_ge1 hb
  have h3 : peak b (0 + 1) (max (0 + 1) (peak a 0 0)) = max (peak b 0 0 + 1) (peak a 0 0) := by rw [peak_max, peak_shift]
  rw [peak_append, peak_append, net_append, ha.2, hb.2]
  have h4 : max (0 + 1) (peak a 0 0) = peak a 0 0 := by omega
  rw [h4] at h3
  rw [h3]
  simp only [peak, kStp, e]
  omega
theorem peak_one {a : List Stp} {k : Int} (ha : Expr a) (hk : k = 5 ∨ k = 6 ∨ k = 7) : peak (a ++ [kStp k]) 0 0 = peak a 0 0 := by
  have e : kOps k = 1 := by rcases hk with rfl | rfl | rfl <;> decide
  have h1 := peak_ge1 ha
  rw [peak_append, ha.2]
  simp only [peak, kStp, e]
  omega
theorem getD_good {l : List Stp} {p : Int} (h : Goes l p) (j : Nat) (hj : j < l.length) : 0 ≤ kOps (l.getD j default).k := by
  rw [List.getD_eq_getElem?_getD, List.getElem?_eq_getElem hj]
  exact (goes_good l p h _ (List.getElem_mem hj)).1
/-- the last part of an expression begins with its first step -/
theorem beg_whole {l : List Stp} (h : Expr l) : begV l ((l.length : Int) - 1) = 0 := by
  have h1 := expr_ne h
  unfold begV
  rw [if_neg (by omega), show ((l.length : Int) - 1).toNat + 1 = l.length by omega]
  have := beg_at l 0 l.length (Nat.le_refl _) (fun j _ hj => getD_good h.1 j hj) (by simp [net, h.2]) (fun j h1 h2 => by
    have := goes_part l 0 h.1 (Int.le_refl _) j h1 (by omega)
    simp only [List.take_zero, net]
    omega) l.length h1 (Nat.le_refl _)
  simpa using this
/-- the part in the midst of others begins where it was put -/
theorem beg_part {x l z : List Stp} (h : Expr l) : begV (x ++ l ++ z) ((x.length : Int) + l.length - 1) = x.length := by
  have h1 := expr_ne h
  unfold begV
  rw [if_neg (by simp; omega), show ((x.length : Int) + l.length - 1).toNat + 1 = x.length + l.length by omega]
  have ht : ∀ j, j ≤ l.length → net ((x ++ l ++ z).take (x.length + j)) = net x + net (l.take j) := fun j hj => by
    rw [List.append_assoc, List.take_length_add_append, net_append]
    congr 2
    exact List.take_append_of_le_length hj
  have hx : net ((x ++ l ++ z).take x.length) = net x := by simp
  have he := ht l.length (Nat.le_refl _)
  rw [List.take_length, h.2] at he
  have := beg_at (x ++ l ++ z) x.length (x.length + l.length) (by simp) (fun j h1 h2 => by
      have := getD_good h.1 (j - x.length) (by omega)
      rw [List.getD_eq_getElem?_getD] at this ⊢
      rwa [List.append_assoc, List.getElem?_append_right h1, List.getElem?_append_left (by omega)]) (by omega) (fun j h1 h2 => by
      have h3 := ht (j - x.length) (by omega)
      rw [show x.length + (j - x.length) = j by omega] at h3
      have := goes_part l 0 h.1 (Int.le_refl _) (j - x.length) (by omega) (by omega)
      omega) (x.length + l.length) (by omega) (Nat.le_refl _)
  simp at this ⊢
  exact this
/-- a first step of no kind is wrong -/
theorem meas_bad {s : Stp} {r : List Stp} (h : kOps s.k < 0) (hl : r.length < 512) : (measV (s :: r)).2 = 1 := by
  unfold measV
  rw [if_neg (by simp; omega), measGo, if_neg (by unfold Stp.good; omega)]
end Go.Proofs.YtbokhofdgdcpdaaDoor

/- Expressions as trees, printed, and the reader that keeps operators waiting: what is printed is read as it. Of no program. -/
namespace Go.Proofs.YtbokhofdgdcpdaaDoor

def sStp (f : Nat → Bool) : Stp := ⟨1, word f 0, word f 1, word f 2, word f 3⟩
theorem sStp_congr {f g : Nat → Bool} (h : ∀ n, n < 256 → f n = g n) : sStp f = sStp g := by
  unfold sStp
  rw [word_ext h 0 (by decide), word_ext h 1 (by decide), word_ext h 2 (by decide), word_ext h 3 (by decide)]
inductive Ex where
  | set (f : Nat → Bool)
  | emp
  | cat (a b : Ex)
  | alt (a b : Ex)
  | un (k : Int) (a : Ex)
def Ex.kind : Ex → Int
  | .set _ => 1
  | .emp => 2
  | .cat _ _ => 3
  | .alt _ _ => 4
  | .un k _ => k
def Ex.ok : Ex → Prop
  | .set _ => True
  | .emp => True
  | .cat a b => a.ok ∧ b.ok
  | .alt a b => a.ok ∧ b.ok
  | .un k a => (k = 5 ∨ k = 6 ∨ k = 7) ∧ a.ok
def ops : Ex → List Stp
  | .set f => [sStp f]
  | .emp => [kStp 2]
  | .cat a b => ops a ++ ops b ++ [kStp 3]
  | .alt a b => ops a ++ ops b ++ [kStp 4]
  | .un k a => ops a ++ [kStp k]
/-! ### the reader -/
/-! ### what is printed is read -/
end Go.Proofs.YtbokhofdgdcpdaaDoor

/- Valid lists of steps are those of one tree; how long its text is. Of no program. -/
namespace Go.Proofs.YtbokhofdgdcpdaaDoor

/-- the words of a step are words -/
def Stp.wide (s : Stp) : Prop := (0 ≤ s.a ∧ s.a ≤ 18446744073709551615) ∧ (0 ≤ s.b ∧ s.b ≤ 18446744073709551615) ∧ (0 ≤ s.c ∧ s.c ≤ 18446744073709551615) ∧ (0 ≤ s.d ∧ s.d ≤ 18446744073709551615)
def bitsE (s : Stp) : Nat → Bool := mem s.a.toNat s.b.toNat s.c.toNat s.d.toNat
theorem bitsE_step {s : Stp} (hk : s.k = 1) (hw : s.wide) : s = sStp (bitsE s) := by
  obtain ⟨h1, h2, h3, h4⟩ := hw
  obtain ⟨m0, m1, m2, m3⟩ := word_mem (a := s.a.toNat) (b := s.b.toNat) (c := s.c.toNat) (d := s.d.toNat) (by omega) (by omega) (by omega) (by omega)
  obtain ⟨k, a, b, c, d⟩ := s
  unfold sStp bitsE
  simp only at hk h1 h2 h3 h4 m0 m1 m2 m3 ⊢
  rw [m0, m1, m2, m3, hk]
  simp only [Stp.mk.injEq, true_and]
  omega
theorem bitsE_words {s : Stp} (hw : s.wide) : (word (bitsE s) 0 : Int) = s.a ∧ (word (bitsE s) 1 : Int) = s.b ∧ (word (bitsE s) 2 : Int) = s.c ∧ (word (bitsE s) 3 : Int) = s.d := by
  obtain ⟨h1, h2, h3, h4⟩ := hw
  obtain ⟨m0, m1, m2, m3⟩ := word_mem (a := s.a.toNat) (b := s.b.toNat) (c := s.c.toNat) (d := s.d.toNat) (by omega) (by omega) (by omega) (by omega)
  unfold bitsE
  rw [m0, m1, m2, m3]
  omega
/-- a step puts trees together: the last one stands first -/
def pushE (s : Stp) (t : List Ex) : List Ex :=
  if s.k = 1 then .set (bitsE s) :: t else if s.k = 2 then .emp :: t else
  if s.k = 3 then (match t with | b :: a :: r => .cat a b :: r | _ => t) else
  if s.k = 4 then (match t with | b :: a :: r => .alt a b :: r | _ => t) else (match t with | a :: r => .un s.k a :: r | _ => t)
def treeGo : List Stp → List Ex → List Ex
  | [], t => t
  | s :: r, t => treeGo r (pushE s t)
theorem treeGo_append : ∀ (a b : List Stp) (t : List Ex), treeGo (a ++ b) t = treeGo b (treeGo a t)
  | [], _, _ => rfl
  | s :: r, b, t => treeGo_append r b (pushE s t)
def trees (L : List Stp) (k : Nat) : List Ex := (treeGo (L.take k) []).reverse
def treeE (L : List Stp) : Ex := (treeGo L []).headD .emp
/-- what a step does to the trees, the last one standing last -/
inductive Next (s : Stp) : List Ex → List Ex → Prop
  | set (r) (h : s.k = 1) (e : s = sStp (bitsE s)) : Next s r (r ++ [.set (bitsE s)])
  | emp (r) (e : s = kStp 2) : Next s r (r ++ [.emp])
  | cat (r a b) (e : s = kStp 3) : Next s (r ++ [a, b]) (r ++ [.cat a b])
  | alt (r a b) (e : s = kStp 4) : Next s (r ++ [a, b]) (r ++ [.alt a b])
  | un (r a) (e : s = kStp s.k) (h : s.k = 5 ∨ s.k = 6 ∨ s.k = 7) : Next s (r ++ [a]) (r ++ [.un s.k a])
theorem ops_expr : ∀ e : Ex, e.ok → Expr (ops e)
  | .set f, _ => by
    refine ⟨⟨⟨by show 0 ≤ kOps 1; decide, .inl rfl⟩, by show kOps 1 ≤ 0; decide, trivial⟩, ?_⟩
    show (1 - kOps 1) + 0 = 1
    decide
  | .emp, _ => by
    refine ⟨⟨⟨by show 0 ≤ kOps 2; decide, .inr ⟨rfl, rfl, rfl, rfl⟩⟩, by show kOps 2 ≤ 0; decide, trivial⟩, ?_⟩
    show (1 - kOps 2) + 0 = 1
    decide
  | .cat a b, ⟨ha, hb⟩ => expr_two (ops_expr a ha) (ops_expr b hb) (.inl rfl)
  | .alt a b, ⟨ha, hb⟩ => expr_two (ops_expr a ha) (ops_expr b hb) (.inr rfl)
  | .un k a, ⟨hk, ha⟩ => expr_one (ops_expr a ha) hk
theorem flat_net : ∀ es : List Ex, (∀ e ∈ es, e.ok) → net (es.flatMap ops) = es.length
  | [], _ => rfl
  | e :: r, h => by
    rw [List.flatMap_cons, net_append, (ops_expr e (h e (by simp))).2, flat_net r fun x hx => h x (by simp [hx])]
    simp only [List.length_cons]
    omega
/-- trees of a list of steps -/
def Forms (L : List Stp) (es : List Ex) : Prop := es.flatMap ops = L ∧ ∀ e ∈ es, e.ok
theorem Forms.put {L : List Stp} {r q : List Ex} {e : Ex} {s : Stp} (h : Forms L (r ++ q)) (he : e.ok) (ho : ops e = q.flatMap ops ++ [s]) : Forms (L ++ [s]) (r ++ [e]) := by
  refine ⟨?_, fun x hx => ?_⟩
  · rw [← h.1]
    simp [ho]
  · simp only [List.mem_append, List.mem_singleton] at hx
    rcases hx with hx | rfl
    · exact h.2 x (by simp [hx])
    · exact he
theorem kind_cases {k : Int} (h : 0 ≤ kOps k) : k = 1 ∨ k = 2 ∨ k = 3 ∨ k = 4 ∨ (k = 5 ∨ k = 6 ∨ k = 7) := by
  unfold kOps at h
  split at h
  · omega
  · split at h
    · omega
    · split at h
      · omega
      · omega
theorem next_of {L : List Stp} {k : Nat} (hk : k < L.length) (hG : Goes L 0) (hw : ∀ s ∈ L, s.wide) (hF : Forms (L.take k) (trees L k)) :
    Next (L.getD k default) (trees L k) (trees L (k + 1)) ∧ Forms (L.take (k + 1)) (trees L (k + 1)) := by
  have hget : L.getD k default = L[k] := by rw [List.getD_eq_getElem?_getD, List.getElem?_eq_getElem hk]; rfl
  have htk : L.take (k + 1) = L.take k ++ [L[k]] := (List.take_append_getElem hk).symm
  have htr : trees L (k + 1) = (pushE L[k] (treeGo (L.take k) [])).reverse := by
    unfold trees
    rw [htk, treeGo_append]
    rfl
  have hsp : L = L.take k ++ (L[k] :: L.drop (k + 1)) := by
    rw [List.getElem_cons_drop, List.take_append_drop]
  have hG2 := hG
  rw [hsp, goes_append] at hG2
  obtain ⟨⟨hg0, hpl⟩, hle, _⟩ := hG2.2
  rw [← hF.1, flat_net _ hF.2] at hle
  have hwd := hw L[k] (List.getElem_mem hk)
  rw [hget, htr, htk]
  unfold trees at hF hle ⊢
  generalize treeGo (L.take k) [] = t at *
  generalize L[k] = s at *
  generalize L.take k = M at *
  rw [List.length_reverse] at hle
  have hko : ∀ j, s.k = j → j ≠ 1 → s = kStp j := fun j hj h1 => by
    rcases hpl with h | ⟨h2, h3, h4, h5⟩
    · omega
    · obtain ⟨k', a', b', c', d'⟩ := s
      simp only at hj h2 h3 h4 h5
      subst hj h2 h3 h4 h5
      rfl
  rcases kind_cases hg0 with h | h | h | h | h
  · have hs := bitsE_step h hwd
    unfold pushE
    rw [if_pos h, List.reverse_cons]
    exact ⟨.set _ h hs, Forms.put (q := []) (by simpa using hF) trivial (by simpa [ops] using hs.symm)⟩
  · have hs := hko 2 h (by decide)
    unfold pushE
    rw [if_neg (by omega), if_pos h, List.reverse_cons]
    exact ⟨.emp _ hs, Forms.put (q := []) (by simpa using hF) trivial (by simpa [ops] using hs.symm)⟩
  · have hs := hko 3 h (by decide)
    rw [h, show kOps 3 = 2 from rfl] at hle
    match t, hle with
    | b :: a :: r, _ =>
      unfold pushE
      rw [if_neg (by omega), if_neg (by omega), if_pos h]
      simp only [List.reverse_cons, List.append_assoc, List.cons_append, List.nil_append] at hF ⊢
      refine ⟨.cat _ a b hs, Forms.put (q := [a, b]) hF ⟨hF.2 a (by simp), hF.2 b (by simp)⟩ ?_⟩
      rw [hs]
      simp [ops]
    | [a], hle => simp at hle
    | [], hle => simp at hle
  · have hs := hko 4 h (by decide)
    rw [h, show kOps 4 = 2 from rfl] at hle
    match t, hle with
    | b :: a :: r, _ =>
      unfold pushE
      rw [if_neg (by omega), if_neg (by omega), if_neg (by omega), if_pos h]
      simp only [List.reverse_cons, List.append_assoc, List.cons_append, List.nil_append] at hF ⊢
      refine ⟨.alt _ a b hs, Forms.put (q := [a, b]) hF ⟨hF.2 a (by simp), hF.2 b (by simp)⟩ ?_⟩
      rw [hs]
      simp [ops]
    | [a], hle => simp at hle
    | [], hle => simp at hle
  · have hs := hko s.k rfl (by omega)
    have h1 : kOps s.k = 1 := by rcases h with h | h | h <;> rw [h] <;> rfl
    rw [h1] at hle
    match t, hle with
    | a :: r, _ =>
      unfold pushE
      rw [if_neg (by omega), if_neg (by omega), if_neg (by omega), if_neg (by omega)]
      simp only [List.reverse_cons] at hF ⊢
      refine ⟨.un _ a hs h, Forms.put (q := [a]) hF ⟨h, hF.2 a (by simp)⟩ ?_⟩
      simp [ops, ← hs]
    | [], hle => simp at hle
theorem forms_nil (L : List Stp) : Forms (L.take 0) (trees L 0) := ⟨rfl, by simp [trees, treeGo]⟩
theorem forms_at {L : List Stp} (hG : Goes L 0) (hw : ∀ s ∈ L, s.wide) : ∀ k, k ≤ L.length → Forms (L.take k) (trees L k)
  | 0, _ => forms_nil L
  | k + 1, h => (next_of (by omega) hG hw (forms_at hG hw k (by omega))).2
/-- A LIST THAT IS AN EXPRESSION: the steps of its tree, and of no other trees -/
theorem tree_of {L : List Stp} (hE : Expr L) (hw : ∀ s ∈ L, s.wide) : trees L L.length = [treeE L] ∧ (treeE L).ok ∧ ops (treeE L) = L := by
  have h := forms_at hE.1 hw L.length (Nat.le_refl _)
  have hn := flat_net _ h.2
  rw [h.1, List.take_length, hE.2] at hn
  unfold trees treeE at *
  rw [List.take_length] at *
  generalize treeGo L [] = t at *
  rw [List.length_reverse] at hn
  match t, hn with
  | [e], _ =>
    refine ⟨rfl, h.2 e (by simp), ?_⟩
    simpa using h.1
  | [], hn => simp at hn
  | a :: b :: r, hn => simp at hn; omega
end Go.Proofs.YtbokhofdgdcpdaaDoor
