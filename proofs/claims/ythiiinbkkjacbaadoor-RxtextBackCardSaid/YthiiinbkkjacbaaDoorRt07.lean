/- RxMath, TxtTree, Typed, Pair, put together. -/
import Derived.Test.YthiiinbkkjacbaaDoorRt01
import Derived.Test.YthiiinbkkjacbaaDoorRt06
import Derived.Orders
import Derived.Handy
import Derived.Laws.ResultCell
import Derived.Laws.Rows
import Derived.Lib.SmallJoins
/- Lists of steps: what they come to, without the program. -/
namespace Go.Proofs.YthiiinbkkjacbaaDoor

/-- one step: its kind, and the four words of its set -/
structure Stp where
  k : Int
  a : Int
  b : Int
  c : Int
  d : Int
instance stp_one : Inhabited Stp := ⟨⟨0, 0, 0, 0, 0⟩⟩
def Stp.val (s : Stp) : Value := .agg #[.int .i64 s.k, .int .u64 s.a, .int .u64 s.b, .int .u64 s.c, .int .u64 s.d]
def Stp.cells (s : Stp) : List Value := [.int .i64 s.k, .int .u64 s.a, .int .u64 s.b, .int .u64 s.c, .int .u64 s.d]
/-- a step of a kind, without a set -/
def kStp (k : Int) : Stp := ⟨k, 0, 0, 0, 0⟩
/-- of how many parts a kind is -/
def kOps (k : Int) : Int := if k = 1 ∨ k = 2 then 0 else if k = 3 ∨ k = 4 then 2 else if k = 5 ∨ k = 6 ∨ k = 7 then 1 else -1
theorem kOps_range (k : Int) : -1 ≤ kOps k ∧ kOps k ≤ 2 := by
  unfold kOps
  split <;> (try split) <;> (try split) <;> omega
def Stp.plain (s : Stp) : Prop := s.k = 1 ∨ (s.a = 0 ∧ s.b = 0 ∧ s.c = 0 ∧ s.d = 0)
instance plain_dec (s : Stp) : Decidable s.plain := by unfold Stp.plain; infer_instance
def Stp.good (s : Stp) : Prop := 0 ≤ kOps s.k ∧ s.plain
instance good_dec (s : Stp) : Decidable s.good := by unfold Stp.good; infer_instance
/-- the greatest number of parts, and what is wrong -/
def measGo : List Stp → Int → Int → Int × Int
  | [], p, h => if p = 1 then (h, 0) else (0, 3)
  | s :: r, p, h => if s.good then (if p < kOps s.k then (0, 3) else measGo r (p + (1 - kOps s.k)) (max h (p + (1 - kOps s.k)))) else (0, 1)
def measV (l : List Stp) : Int × Int := if 512 < l.length then (0, 4) else measGo l 0 0
/-- where the part begins that ends ahead of step n, where m parts are missing -/
def begGo (l : List Stp) : Nat → Int → Int
  | 0, _ => -1
  | n + 1, m => if kOps (l.getD n default).k < 0 then -1 else if m + (kOps (l.getD n default).k - 1) = 0 then n else begGo l n (m + (kOps (l.getD n default).k - 1))
def begV (l : List Stp) (i : Int) : Int := if i < 0 ∨ (l.length : Int) ≤ i then -1 else begGo l (i.toNat + 1) 1

theorem meas_err : ∀ (l : List Stp) (p h : Int), (measGo l p h).2 = 0 ∨ (measGo l p h).2 = 1 ∨ (measGo l p h).2 = 3
  | [], p, h => by
    unfold measGo
    split <;> simp
  | s :: r, p, h => by
    unfold measGo
    split
    · split
      · simp
      · exact meas_err r _ _
    · simp

/-! ### what an expression is: parts at each place -/
/-- how many parts the steps leave -/
def net : List Stp → Int
  | [] => 0
  | s :: r => (1 - kOps s.k) + net r
theorem net_append : ∀ a b, net (a ++ b) = net a + net b
  | [], b => by simp [net]
  | s :: r, b => by
    simp only [List.cons_append, net, net_append r b]
    omega
/-- the steps go through behind p parts -/
def Goes : List Stp → Int → Prop
  | [], _ => True
  | s :: r, p => s.good ∧ kOps s.k ≤ p ∧ Goes r (p + (1 - kOps s.k))
/-- the greatest number of parts behind p of them -/
def peak : List Stp → Int → Int → Int
  | [], _, h => h
  | s :: r, p, h => peak r (p + (1 - kOps s.k)) (max h (p + (1 - kOps s.k)))
theorem goes_meas : ∀ (l : List Stp) (p h : Int), Goes l p → measGo l p h = if p + net l = 1 then (peak l p h, 0) else (0, 3)
  | [], p, h, _ => by simp [measGo, net, peak]
  | s :: r, p, h, ⟨h1, h2, h3⟩ => by
    rw [measGo, if_pos h1, if_neg (by omega), goes_meas r _ _ h3]
    have e : p + (1 - kOps s.k) + net r = p + net (s :: r) := by
      simp only [net]
      omega
    rw [e]
    rfl
theorem meas_goes : ∀ (l : List Stp) (p h : Int), (measGo l p h).2 = 0 → Goes l p ∧ p + net l = 1
  | [], p, h, e => by
    refine ⟨trivial, ?_⟩
    unfold measGo at e
    split at e
    · simpa [net]
    · simp at e
  | s :: r, p, h, e => by
    unfold measGo at e
    split at e
    · rename_i hg
      split at e
      · simp at e
      · have := meas_goes r _ _ e
        refine ⟨⟨hg, by omega, this.1⟩, ?_⟩
        simp only [net]
        omega
    · simp at e
theorem goes_append : ∀ (a b : List Stp) (p : Int), Goes (a ++ b) p ↔ Goes a p ∧ Goes b (p + net a)
  | [], b, p => by simp [Goes, net]
  | s :: r, b, p => by
    simp only [List.cons_append, Goes, goes_append r b, net]
    rw [show p + (1 - kOps s.k) + net r = p + (1 - kOps s.k + net r) by omega]
    constructor
    · rintro ⟨h1, h2, h3, h4⟩
      exact ⟨⟨h1, h2, h3⟩, h4⟩
    · rintro ⟨⟨h1, h2, h3⟩, h4⟩
      exact ⟨h1, h2, h3, h4⟩
theorem goes_more : ∀ (a : List Stp) (p q : Int), Goes a p → p ≤ q → Goes a q
  | [], _, _, _, _ => trivial
  | s :: r, p, q, ⟨h1, h2, h3⟩, h => ⟨h1, by omega, goes_more r _ _ h3 (by omega)⟩
theorem peak_append : ∀ (a b : List Stp) (p h : Int), peak (a ++ b) p h = peak b (p + net a) (peak a p h)
  | [], b, p, h => by simp [peak, net]
  | s :: r, b, p, h => by
    simp only [List.cons_append, peak, peak_append r b, net]
    rw [show p + (1 - kOps s.k) + net r = p + (1 - kOps s.k + net r) by omega]
theorem peak_max : ∀ (a : List Stp) (p h g : Int), peak a p (max h g) = max (peak a p h) g
  | [], p, h, g => rfl
  | s :: r, p, h, g => by
    simp only [peak]
    rw [show max (max h g) (p + (1 - kOps s.k)) = max (max h (p + (1 - kOps s.k))) g by omega]
    exact peak_max r _ _ _
theorem peak_shift : ∀ (a : List Stp) (p h q : Int), peak a (p + q) (h + q) = peak a p h + q
  | [], p, h, q => rfl
  | s :: r, p, h, q => by
    simp only [peak]
    have := peak_shift r (p + (1 - kOps s.k)) (max h (p + (1 - kOps s.k))) q
    rw [← this]
    congr 1 <;> omega
theorem peak_ge : ∀ (a : List Stp) (p h : Int), h ≤ peak a p h
  | [], p, h => Int.le_refl _
  | s :: r, p, h => by
    have := peak_ge r (p + (1 - kOps s.k)) (max h (p + (1 - kOps s.k)))
    simp only [peak]
    omega
/-- behind each beginning of steps that go through, but the empty one, there is a part -/
theorem goes_part : ∀ (a : List Stp) (p : Int), Goes a p → 0 ≤ p → ∀ n, 0 < n → n ≤ a.length → 1 ≤ p + net (a.take n)
  | [], _, _, _, n, h1, h2 => by simp at h2; omega
  | s :: r, p, ⟨h1, h2, h3⟩, hp, n, hn, hl => by
    obtain ⟨m, rfl⟩ : ∃ m, n = m + 1 := ⟨n - 1, by omega⟩
    simp only [List.take_succ_cons, net]
    have h0 := h1.1
    by_cases hm : m = 0
    · subst hm
      simp [net]
      omega
    · have := goes_part r _ h3 (by omega) m (by omega) (by simpa using hl)
      omega
theorem goes_good : ∀ (a : List Stp) (p : Int), Goes a p → ∀ s ∈ a, s.good
  | [], _, _, s, h => by simp at h
  | x :: r, p, ⟨h1, _, h3⟩, s, h => by
    rcases List.mem_cons.1 h with rfl | h
    · exact h1
    · exact goes_good r _ h3 s h
theorem net_take_more (l : List Stp) (n : Nat) (h : n < l.length) : net (l.take (n + 1)) = net (l.take n) + (1 - kOps (l.getD n default).k) := by
  rw [List.take_succ_eq_append_getElem h, net_append, List.getD_eq_getElem?_getD, List.getElem?_eq_getElem h]
  simp [net]
/-- going back, the part begins where the count falls to what it was -/
theorem beg_at (l : List Stp) (at' e : Nat) (he : e ≤ l.length) (hg : ∀ j, at' ≤ j → j < e → 0 ≤ kOps (l.getD j default).k) (h0 : net (l.take at') + 1 = net (l.take e)) (hbig : ∀ j, at' < j → j < e → net (l.take at') < net (l.take j)) :
    ∀ n, at' < n → n ≤ e → begGo l n (1 - (net (l.take e) - net (l.take n))) = at' := by
  intro n
  induction n with
  | zero => intro h; omega
  | succ n ih =>
    intro h1 h2
    have hk := hg n (by omega) (by omega)
    have hs := net_take_more l n (by omega)
    rw [begGo, if_neg (by omega)]
    have e1 : 1 - (net (l.take e) - net (l.take (n + 1))) + (kOps (l.getD n default).k - 1) = 1 - (net (l.take e) - net (l.take n)) := by omega
    rw [e1]
    by_cases hn : n = at'
    · subst hn
      rw [if_pos (by omega)]
    · have := hbig n (by omega) (by omega)
      rw [if_neg (by omega)]
      exact ih (by omega) (by omega)

/-- an expression -/
def Expr (l : List Stp) : Prop := Goes l 0 ∧ net l = 1
theorem expr_ne {l : List Stp} (h : Expr l) : 0 < l.length := by
  cases l with
  | nil => simp [Expr, net] at h
  | cons s r => simp
theorem meas_expr {l : List Stp} (h : (measV l).2 = 0) : l.length ≤ 512 ∧ Expr l := by
  unfold measV at h
  split at h
  · simp at h
  · have := meas_goes l 0 0 h
    exact ⟨by omega, this.1, by omega⟩
theorem expr_meas {l : List Stp} (h : Expr l) (hl : l.length ≤ 512) : measV l = (peak l 0 0, 0) := by
  unfold measV
  rw [if_neg (by omega), goes_meas l 0 0 h.1, if_pos (by rw [h.2]; rfl)]
theorem expr_two {a b : List Stp} {k : Int} (ha : Expr a) (hb : Expr b) (hk : k = 3 ∨ k = 4) : Expr (a ++ b ++ [kStp k]) := by
  have e : kOps k = 2 := by rcases hk with rfl | rfl <;> decide
  refine ⟨?_, ?_⟩
  · rw [goes_append, goes_append, net_append, ha.2, hb.2]
    refine ⟨⟨ha.1, goes_more b _ _ hb.1 (by decide)⟩, ⟨?_, by simp [kStp, e], trivial⟩⟩
    exact ⟨by simp [kStp, e], .inr ⟨rfl, rfl, rfl, rfl⟩⟩
  · rw [net_append, net_append, ha.2, hb.2]
    simp [net, kStp, e]
theorem expr_one {a : List Stp} {k : Int} (ha : Expr a) (hk : k = 5 ∨ k = 6 ∨ k = 7) : Expr (a ++ [kStp k]) := by
  have e : kOps k = 1 := by rcases hk with rfl | rfl | rfl <;> decide
  refine ⟨?_, ?_⟩
  · rw [goes_append, ha.2]
    refine ⟨ha.1, ⟨?_, by simp [kStp, e], trivial⟩⟩
    exact ⟨by simp [kStp, e], .inr ⟨rfl, rfl, rfl, rfl⟩⟩
  · rw [net_append, ha.2]
    simp [net, kStp, e]
theorem peak_ge1 {a : List Stp} (h : Expr a) : 1 ≤ peak a 0 0 := by
  have h1 := expr_ne h
  cases a with
  | nil => simp at h1
  | cons s r =>
    obtain ⟨⟨⟨g1, _⟩, g2, _⟩, _⟩ := h
    have := peak_ge r (0 + (1 - kOps s.k)) (max 0 (0 + (1 - kOps s.k)))
    simp only [peak]
    omega
theorem peak_two {a b : List Stp} {k : Int} (ha : Expr a) (hb : Expr b) (hk : k = 3 ∨ k = 4) : peak (a ++ b ++ [kStp k]) 0 0 = max (peak a 0 0) (peak b 0 0 + 1) := by
  have e : kOps k = 2 := by rcases hk with rfl | rfl <;> decide
  have h1 := peak_ge1 ha
  have h2 := peak_ge1 hb
  have h3 : peak b (0 + 1) (max (0 + 1) (peak a 0 0)) = max (peak b 0 0 + 1) (peak a 0 0) := by rw [peak_max, peak_shift]
  rw [peak_append, peak_append, net_append, ha.2, hb.2]
  have h4 : max (0 + 1) (peak a 0 0) = peak a 0 0 := by omega
  rw [h4] at h3
  rw [h3]
  simp only [peak, kStp, e]
  omega
theorem peak_one {a : List Stp} {k : Int} (ha : Expr a) (hk : k = 5 ∨ k = 6 ∨ k = 7) : peak (a ++ [kStp k]) 0 0 = peak a 0 0 := by
  have e : kOps k = 1 := by rcases hk with rfl | rfl | rfl <;> decide
  have h1 := peak_ge1 ha
  rw [peak_append, ha.2]
  simp only [peak, kStp, e]
  omega
theorem getD_good {l : List Stp} {p : Int} (h : Goes l p) (j : Nat) (hj : j < l.length) : 0 ≤ kOps (l.getD j default).k := by
  rw [List.getD_eq_getElem?_getD, List.getElem?_eq_getElem hj]
  exact (goes_good l p h _ (List.getElem_mem hj)).1
/-- the last part of an expression begins with its first step -/
theorem beg_whole {l : List Stp} (h : Expr l) : begV l ((l.length : Int) - 1) = 0 := by
  have h1 := expr_ne h
  unfold begV
  rw [if_neg (by omega), show ((l.length : Int) - 1).toNat + 1 = l.length by omega]
  have := beg_at l 0 l.length (Nat.le_refl _) (fun j _ hj => getD_good h.1 j hj) (by simp [net, h.2]) (fun j h1 h2 => by
    have := goes_part l 0 h.1 (Int.le_refl _) j h1 (by omega)
    simp only [List.take_zero, net]
    omega) l.length h1 (Nat.le_refl _)
  simpa using this
/-- the part in the midst of others begins where it was put -/
theorem beg_part {x l z : List Stp} (h : Expr l) : begV (x ++ l ++ z) ((x.length : Int) + l.length - 1) = x.length := by
  have h1 := expr_ne h
  unfold begV
  rw [if_neg (by simp; omega), show ((x.length : Int) + l.length - 1).toNat + 1 = x.length + l.length by omega]
  have ht : ∀ j, j ≤ l.length → net ((x ++ l ++ z).take (x.length + j)) = net x + net (l.take j) := fun j hj => by
    rw [List.append_assoc, List.take_length_add_append, net_append]
    congr 2
    exact List.take_append_of_le_length hj
  have hx : net ((x ++ l ++ z).take x.length) = net x := by simp
  have he := ht l.length (Nat.le_refl _)
  rw [List.take_length, h.2] at he
  have := beg_at (x ++ l ++ z) x.length (x.length + l.length) (by simp) (fun j h1 h2 => by
      have := getD_good h.1 (j - x.length) (by omega)
      rw [List.getD_eq_getElem?_getD] at this ⊢
      rwa [List.append_assoc, List.getElem?_append_right h1, List.getElem?_append_left (by omega)]) (by omega) (fun j h1 h2 => by
      have h3 := ht (j - x.length) (by omega)
      rw [show x.length + (j - x.length) = j by omega] at h3
      have := goes_part l 0 h.1 (Int.le_refl _) (j - x.length) (by omega) (by omega)
      omega) (x.length + l.length) (by omega) (Nat.le_refl _)
  simp at this ⊢
  exact this
/-- a first step of no kind is wrong -/
theorem meas_bad {s : Stp} {r : List Stp} (h : kOps s.k < 0) (hl : r.length < 512) : (measV (s :: r)).2 = 1 := by
  unfold measV
  rw [if_neg (by simp; omega), measGo, if_neg (by unfold Stp.good; omega)]
end Go.Proofs.YthiiinbkkjacbaaDoor

/- Expressions as trees, printed, and the reader that keeps operators waiting: what is printed is read as it. Of no program. -/
namespace Go.Proofs.YthiiinbkkjacbaaDoor

def sStp (f : Nat → Bool) : Stp := ⟨1, word f 0, word f 1, word f 2, word f 3⟩
theorem sStp_congr {f g : Nat → Bool} (h : ∀ n, n < 256 → f n = g n) : sStp f = sStp g := by
  unfold sStp
  rw [word_ext h 0 (by decide), word_ext h 1 (by decide), word_ext h 2 (by decide), word_ext h 3 (by decide)]
inductive Ex where
  | set (f : Nat → Bool)
  | emp
  | cat (a b : Ex)
  | alt (a b : Ex)
  | un (k : Int) (a : Ex)
def Ex.kind : Ex → Int
  | .set _ => 1
  | .emp => 2
  | .cat _ _ => 3
  | .alt _ _ => 4
  | .un k _ => k
def Ex.ok : Ex → Prop
  | .set _ => True
  | .emp => True
  | .cat a b => a.ok ∧ b.ok
  | .alt a b => a.ok ∧ b.ok
  | .un k a => (k = 5 ∨ k = 6 ∨ k = 7) ∧ a.ok
def ops : Ex → List Stp
  | .set f => [sStp f]
  | .emp => [kStp 2]
  | .cat a b => ops a ++ ops b ++ [kStp 3]
  | .alt a b => ops a ++ ops b ++ [kStp 4]
  | .un k a => ops a ++ [kStp k]
def sgn (k : Int) : UInt8 := if k = 5 then 42 else if k = 6 then 43 else 63
def par (c : Bool) (t : List UInt8) : List UInt8 := if c = true then [40] ++ t ++ [41] else t
def isAlt (k : Int) : Bool := k == 4
def isTwo (k : Int) : Bool := k == 4 || k == 3
def showE : Ex → List UInt8
  | .set f => shSet f
  | .emp => [40, 41]
  | .alt a b => showE a ++ [124] ++ par (isAlt b.kind) (showE b)
  | .cat a b => par (isAlt a.kind) (showE a) ++ par (isTwo b.kind) (showE b)
  | .un k a => par (isTwo a.kind) (showE a) ++ [sgn k]

/-! ### the reader -/
structure Bld where
  st : List Stp
  wt : List Int
  hp : Bool
def settle (k : Int) (b : Bld) : Bld := match b.wt with
  | [] => b
  | x :: r => if x = k then ⟨b.st ++ [kStp k], r, b.hp⟩ else b
def bBegin (b : Bld) : Bld := if b.hp = true then ⟨(settle 3 b).st, 3 :: (settle 3 b).wt, true⟩ else b
def bEmp (b : Bld) : Bld := if b.hp = true then b else ⟨b.st ++ [kStp 2], b.wt, false⟩
def bEnd (b : Bld) : Bld := settle 4 (settle 3 (bEmp b))
def bSplit (b : Bld) : Bld := ⟨(bEnd b).st, 4 :: (bEnd b).wt, false⟩
def bOpen (b : Bld) : Bld := ⟨(bBegin b).st, 0 :: (bBegin b).wt, false⟩
def bClose (b : Bld) : Option Bld := match (bEnd b).wt with
  | [] => none
  | x :: r => if x = 0 then some ⟨(bEnd b).st, r, true⟩ else none
def bAtom (b : Bld) (s : Stp) : Bld := ⟨(bBegin b).st ++ [s], (bBegin b).wt, true⟩
def sign (c : UInt8) : Int := if c = 42 then 5 else if c = 43 then 6 else if c = 63 then 7 else 0
def stepM : List UInt8 → Bld → Option Bld × Nat
  | [], _ => (none, 0)
  | c :: r, b =>
    if sign c ≠ 0 then (if b.hp = true then (some ⟨b.st ++ [kStp (sign c)], b.wt, true⟩, 1) else (none, 0))
    else if c = 40 then (some (bOpen b), 1)
    else if c = 41 then (match bClose b with | none => (none, 0) | some x => (some x, 1))
    else if c = 124 then (some (bSplit b), 1)
    else if (rdSet (c :: r)).2.2 = true then (some (bAtom b (sStp (rdSet (c :: r)).1)), (rdSet (c :: r)).2.1)
    else (none, (rdSet (c :: r)).2.1)
def runM : Nat → List UInt8 → Bld → Option Bld × Nat
  | 0, _, _ => (none, 0)
  | _ + 1, [], b => (some b, 0)
  | n + 1, c :: r, b => match stepM (c :: r) b with
    | (none, k) => (none, k)
    | (some b', k) => ((runM n ((c :: r).drop k) b').1, k + (runM n ((c :: r).drop k) b').2)
def b0 : Bld := ⟨[], [], false⟩
def fin (b : Bld) (n : Nat) : Option (List Stp) × Nat := if (bEnd b).wt = [] then (some (bEnd b).st, n) else (none, n)
def readV (l : List UInt8) : Option (List Stp) × Nat := match runM (l.length + 1) l b0 with
  | (none, k) => (none, k)
  | (some b, _) => fin b l.length
def readR (l : List UInt8) : List Stp × Nat × Int :=
  if 4096 < l.length then ([], 0, 4) else match readV l with
    | (none, k) => ([], k, 3)
    | (some s, n) => if 512 < s.length then ([], 0, 4) else (s, n, 0)

/-! ### what is printed is read -/
inductive Reads : List UInt8 → Bld → List UInt8 → Bld → Prop
  | refl (l b) : Reads l b l b
  | step {c r b b' k l' b''} (h : stepM (c :: r) b = (some b', k)) (hk : 1 ≤ k) (t : Reads ((c :: r).drop k) b' l' b'') : Reads (c :: r) b l' b''
theorem Reads.trans {l l' l'' : List UInt8} {b b' b'' : Bld} (h : Reads l b l' b') (h' : Reads l' b' l'' b'') : Reads l b l'' b'' := by
  induction h with
  | refl => exact h'
  | step e hk _ ih => exact .step e hk (ih h')
theorem step_sign {c : UInt8} {r : List UInt8} {b : Bld} (hs : sign c ≠ 0) (hb : b.hp = true) : stepM (c :: r) b = (some ⟨b.st ++ [kStp (sign c)], b.wt, true⟩, 1) := by
  simp only [stepM]
  rw [if_pos hs, if_pos hb]
theorem step_open {r : List UInt8} {b : Bld} : stepM (40 :: r) b = (some (bOpen b), 1) := by
  simp only [stepM]
  rw [if_neg (by decide)]
  simp
theorem step_close {r : List UInt8} {b x : Bld} (h : bClose b = some x) : stepM (41 :: r) b = (some x, 1) := by
  simp only [stepM]
  rw [if_neg (by decide)]
  simp [h]
theorem step_bar {r : List UInt8} {b : Bld} : stepM (124 :: r) b = (some (bSplit b), 1) := by
  simp only [stepM]
  rw [if_neg (by decide)]
  simp
theorem sign_no {c : UInt8} (h1 : c ≠ 42) (h2 : c ≠ 43) (h3 : c ≠ 63) : sign c = 0 := by
  unfold sign
  rw [if_neg h1, if_neg h2, if_neg h3]
theorem step_set {f : Nat → Bool} {r : List UInt8} {b : Bld} : Reads (shSet f ++ r) b r (bAtom b (sStp f)) := by
  obtain ⟨g, hg, he⟩ := shSet_read f r
  obtain ⟨c, t, hc, h1, h2, h3, h4, h5, h6⟩ := shSet_head f
  have hlen : 1 ≤ (shSet f).length := by rw [hc]; simp
  have hd : (shSet f ++ r).drop (shSet f).length = r := List.drop_left
  rw [hc, List.cons_append] at hg hd ⊢
  refine .step (k := (c :: t).length) (b' := bAtom b (sStp f)) ?_ (by simp) ?_
  · simp only [stepM]
    rw [if_neg (by rw [sign_no h1 h2 h3]; simp), if_neg h4, if_neg h5, if_neg h6, hg]
    simp only [if_true]
    rw [sStp_congr he]
  · rw [hd]
    exact .refl _ _

theorem settle_no {k : Int} {b : Bld} (h : ∀ x r, b.wt = x :: r → x ≠ k) : settle k b = b := by
  unfold settle
  split
  · rfl
  · rename_i x r e
    rw [if_neg (h x r e)]
theorem settle_yes {k : Int} {st : List Stp} {r : List Int} {hp : Bool} : settle k ⟨st, k :: r, hp⟩ = ⟨st ++ [kStp k], r, hp⟩ := by
  unfold settle
  simp
/-- the top of what waits is none of a kind -/
def NoTop (k : Int) (w : List Int) : Prop := ∀ x r, w = x :: r → x ≠ k
/-- what waits, and the steps, behind a text that is no RxAlt -/
def pend : Ex → List Stp × List Int
  | .cat a b => (ops a ++ ops b, [3])
  | e => (ops e, [])
/-- a branch ends: the text of e is complete -/
theorem pend_settle (e : Ex) (he : e.kind ≠ 4) (st : List Stp) (w : List Int) (hw : NoTop 3 w) (hp : Bool) : settle 3 ⟨st ++ (pend e).1, (pend e).2 ++ w, hp⟩ = ⟨st ++ ops e, w, hp⟩ := by
  cases e with
  | cat a b =>
    simp only [pend, ops, List.cons_append, List.nil_append]
    rw [settle_yes]
    simp
  | alt a b => exact absurd rfl he
  | set f => exact settle_no hw
  | emp => exact settle_no hw
  | un k a => exact settle_no hw
theorem begin_new {b : Bld} (h : b.hp = false) : bBegin b = b := by
  unfold bBegin
  rw [if_neg (by rw [h]; simp)]
/-- behind the text of e, from a state with no piece -/
def After (e : Ex) (b b' : Bld) : Prop := bEnd b' = ⟨b.st ++ ops e, b.wt, true⟩ ∧ b'.hp = true
theorem bEmp_yes {st : List Stp} {w : List Int} : bEmp ⟨st, w, true⟩ = ⟨st, w, true⟩ := by unfold bEmp; simp
theorem after_pend {e : Ex} (he : e.kind ≠ 4) {b : Bld} (h3 : NoTop 3 b.wt) (h4 : NoTop 4 b.wt) : After e b ⟨b.st ++ (pend e).1, (pend e).2 ++ b.wt, true⟩ := by
  refine ⟨?_, rfl⟩
  unfold bEnd
  rw [bEmp_yes, pend_settle e he _ _ h3, settle_no (by exact h4)]
theorem close_after {e : Ex} {b : Bld} {st : List Stp} {w : List Int} (h : After e ⟨st, 0 :: w, false⟩ b) : bClose b = some ⟨st ++ ops e, w, true⟩ := by
  unfold bClose
  rw [h.1]
  simp
theorem noTop_zero (w : List Int) : NoTop 3 (0 :: w) ∧ NoTop 4 (0 :: w) := by
  constructor <;> rintro x r h <;> (simp at h; obtain ⟨rfl, _⟩ := h; decide)

structure Good (e : Ex) : Prop where
  /-- as a piece: in parentheses, if it is of two -/
  piece : ∀ b r, Reads (par (isTwo e.kind) (showE e) ++ r) b r ⟨(bBegin b).st ++ ops e, (bBegin b).wt, true⟩
  /-- as the beginning of a branch -/
  branch : e.kind ≠ 4 → ∀ b r, b.hp = false → NoTop 3 b.wt → Reads (showE e ++ r) b r ⟨b.st ++ (pend e).1, (pend e).2 ++ b.wt, true⟩
  /-- as a text -/
  text : ∀ b r, b.hp = false → NoTop 3 b.wt → NoTop 4 b.wt → ∃ b', Reads (showE e ++ r) b r b' ∧ After e b b'
/-- a text in parentheses is a piece -/
theorem piece_of {e : Ex} (h : ∀ b r, b.hp = false → NoTop 3 b.wt → NoTop 4 b.wt → ∃ b', Reads (showE e ++ r) b r b' ∧ After e b b') (b : Bld) (r : List UInt8) :
    Reads (par true (showE e) ++ r) b r ⟨(bBegin b).st ++ ops e, (bBegin b).wt, true⟩ := by
  obtain ⟨h3, h4⟩ := noTop_zero (bBegin b).wt
  obtain ⟨b', hr, ha⟩ := h (bOpen b) (41 :: r) rfl h3 h4
  unfold par
  rw [if_pos rfl]
  have e1 : [40] ++ showE e ++ [41] ++ r = 40 :: (showE e ++ 41 :: r) := by simp
  rw [e1]
  refine .step (b' := bOpen b) (k := 1) step_open (Nat.le_refl _) ?_
  rw [show (40 :: (showE e ++ 41 :: r)).drop 1 = showE e ++ 41 :: r from rfl]
  refine hr.trans (.step (k := 1) (b' := ⟨(bBegin b).st ++ ops e, (bBegin b).wt, true⟩) (step_close (close_after ha)) (Nat.le_refl _) ?_)
  exact .refl _ _
/-- a piece that is not of two begins a branch, and is a text -/
theorem good_plain {e : Ex} (hk : isTwo e.kind = false) (hp : pend e = (ops e, [])) (h : ∀ b r, Reads (showE e ++ r) b r ⟨(bBegin b).st ++ ops e, (bBegin b).wt, true⟩) : Good e := by
  have hk4 : e.kind ≠ 4 := fun h => by rw [h] at hk; exact absurd hk (by decide)
  have hbr : ∀ b r, b.hp = false → Reads (showE e ++ r) b r ⟨b.st ++ (pend e).1, (pend e).2 ++ b.wt, true⟩ := fun b r hb => by
    have := h b r
    rw [begin_new hb] at this
    rw [hp]
    exact this
  refine ⟨fun b r => ?_, fun _ b r hb _ => hbr b r hb, fun b r hb h3 h4 => ⟨_, hbr b r hb, after_pend hk4 h3 h4⟩⟩
  rw [hk]
  exact h b r
theorem good : ∀ e : Ex, e.ok → Good e
  | .set f, _ => good_plain rfl rfl fun _ _ => step_set
  | .emp, _ => good_plain rfl rfl fun b r => by
    refine .step (r := 41 :: r) (b' := bOpen b) (k := 1) step_open (Nat.le_refl _) ?_
    refine .step (r := r) (k := 1) (b' := ⟨(bBegin b).st ++ ops .emp, (bBegin b).wt, true⟩) (step_close ?_) (Nat.le_refl _) (.refl _ _)
    unfold bClose
    have e : bEnd (bOpen b) = ⟨(bBegin b).st ++ ops .emp, 0 :: (bBegin b).wt, false⟩ := by
      unfold bEnd bEmp bOpen
      simp only [Bool.false_eq_true, if_false]
      rw [settle_no (k := 3) (by exact (noTop_zero _).1), settle_no (k := 4) (by exact (noTop_zero _).2)]
      rfl
    rw [e]
    simp
  | .un k a, ⟨hk, ha⟩ => by
    have ga := good a ha
    have hk2 : isTwo k = false := by rcases hk with rfl | rfl | rfl <;> rfl
    refine good_plain hk2 rfl fun b r => ?_
    simp only [showE, List.append_assoc]
    refine (ga.piece b ([sgn k] ++ r)).trans ?_
    have hs : sign (sgn k) = k := by rcases hk with rfl | rfl | rfl <;> rfl
    refine .step (r := r) (k := 1) (b' := ⟨(bBegin b).st ++ ops a ++ [kStp k], (bBegin b).wt, true⟩) ?_ (Nat.le_refl _) ?_
    · rw [step_sign (by rw [hs]; omega) rfl, hs]
    · simp only [ops, List.append_assoc]
      exact .refl _ _
  | .cat a b, ⟨ha, hb⟩ => by
    have ga := good a ha
    have gb := good b hb
    have hbr : ∀ s r, s.hp = false → NoTop 3 s.wt → Reads (showE (.cat a b) ++ r) s r ⟨s.st ++ (pend (.cat a b)).1, (pend (.cat a b)).2 ++ s.wt, true⟩ := fun s r hs h3 => by
      simp only [showE, List.append_assoc]
      have second : ∀ x : Bld, settle 3 x = ⟨s.st ++ ops a, s.wt, true⟩ → x.hp = true → Reads (par (isTwo b.kind) (showE b) ++ r) x r ⟨s.st ++ (pend (.cat a b)).1, (pend (.cat a b)).2 ++ s.wt, true⟩ := fun x hx hp => by
        have := gb.piece x r
        have e : bBegin x = ⟨s.st ++ ops a, 3 :: s.wt, true⟩ := by
          unfold bBegin
          rw [if_pos hp, hx]
        rw [e] at this
        simpa [pend] using this
      by_cases c : a.kind = 4
      · have e1 : isAlt a.kind = true := by rw [c]; rfl
        have e2 : isTwo a.kind = true := by rw [c]; rfl
        have h1 := ga.piece s (par (isTwo b.kind) (showE b) ++ r)
        rw [e2, begin_new hs] at h1
        rw [e1]
        exact h1.trans (second _ (settle_no (by exact h3)) rfl)
      · have e1 : isAlt a.kind = false := by
          unfold isAlt
          simpa using c
        have h1 := ga.branch c s (par (isTwo b.kind) (showE b) ++ r) hs h3
        rw [e1]
        exact h1.trans (second _ (pend_settle a c _ _ h3 _) rfl)
    have htx : ∀ s r, s.hp = false → NoTop 3 s.wt → NoTop 4 s.wt → ∃ b', Reads (showE (.cat a b) ++ r) s r b' ∧ After (.cat a b) s b' := fun s r hs h3 h4 => ⟨_, hbr s r hs h3, after_pend (e := .cat a b) (by simp [Ex.kind]) h3 h4⟩
    exact ⟨fun s r => piece_of htx s r, fun _ s r hs h3 => hbr s r hs h3, htx⟩
  | .alt a b, ⟨ha, hb⟩ => by
    have ga := good a ha
    have gb := good b hb
    have htx : ∀ s r, s.hp = false → NoTop 3 s.wt → NoTop 4 s.wt → ∃ b', Reads (showE (.alt a b) ++ r) s r b' ∧ After (.alt a b) s b' := fun s r hs h3 h4 => by
      obtain ⟨x, hr, hx, hp⟩ := ga.text s ([124] ++ (par (isAlt b.kind) (showE b) ++ r)) hs h3 h4
      simp only [showE, List.append_assoc]
      have hb4 : NoTop 3 (4 :: s.wt) := by
        rintro y r h
        simp at h
        obtain ⟨rfl, _⟩ := h
        decide
      have hsp : bSplit x = ⟨s.st ++ ops a, 4 :: s.wt, false⟩ := by
        unfold bSplit
        rw [hx]
      have fins : ∀ y : Bld, settle 3 y = ⟨s.st ++ ops a ++ ops b, 4 :: s.wt, true⟩ → y.hp = true → After (.alt a b) s y := fun y hy hp => by
        refine ⟨?_, hp⟩
        unfold bEnd bEmp
        rw [if_pos hp, hy, settle_yes]
        simp [ops]
      have hbar : Reads ([124] ++ (par (isAlt b.kind) (showE b) ++ r)) x (par (isAlt b.kind) (showE b) ++ r) ⟨s.st ++ ops a, 4 :: s.wt, false⟩ := by
        rw [← hsp]
        exact .step (k := 1) (b' := bSplit x) step_bar (Nat.le_refl _) (.refl _ _)
      by_cases c : b.kind = 4
      · have e1 : isAlt b.kind = true := by rw [c]; rfl
        have e2 : isTwo b.kind = true := by rw [c]; rfl
        have h1 := gb.piece ⟨s.st ++ ops a, 4 :: s.wt, false⟩ r
        rw [e2, begin_new rfl] at h1
        rw [e1] at hbar ⊢
        rw [e1] at hr
        exact ⟨_, hr.trans (hbar.trans h1), fins _ (settle_no (by exact hb4)) rfl⟩
      · have e1 : isAlt b.kind = false := by
          unfold isAlt
          simpa using c
        have h1 := gb.branch c ⟨s.st ++ ops a, 4 :: s.wt, false⟩ r rfl hb4
        rw [e1] at hbar hr ⊢
        exact ⟨_, hr.trans (hbar.trans h1), fins _ (pend_settle b c _ _ hb4 _) rfl⟩
    exact ⟨fun s r => piece_of htx s r, fun h => absurd rfl h, htx⟩

theorem reads_run {l l' : List UInt8} {b b' : Bld} (h : Reads l b l' b') (hl : l' = []) : ∀ n, l.length < n → (runM n l b).1 = some b' := by
  induction h with
  | refl l b =>
    subst hl
    intro n hn
    obtain ⟨m, rfl⟩ : ∃ m, n = m + 1 := ⟨n - 1, by omega⟩
    rfl
  | @step c r b b' k l' b'' h hk t ih =>
    intro n hn
    obtain ⟨m, rfl⟩ : ∃ m, n = m + 1 := ⟨n - 1, by omega⟩
    simp only [runM, h]
    exact ih hl m (by simp only [List.length_drop]; simp only [List.length_cons] at hn ⊢; omega)
/-- what is printed of an expression is read as it -/
theorem show_read (e : Ex) (he : e.ok) : readV (showE e) = (some (ops e), (showE e).length) := by
  obtain ⟨b', hr, ha⟩ := (good e he).text b0 [] rfl (by rintro x r h; cases h) (by rintro x r h; cases h)
  rw [List.append_nil] at hr
  have := reads_run hr rfl ((showE e).length + 1) (Nat.lt_succ_self _)
  unfold readV
  split
  · rename_i k h
    rw [h] at this
    cases this
  · rename_i b k h
    rw [h] at this
    obtain rfl := Option.some.inj this
    unfold fin
    rw [ha.1]
    simp [b0]
end Go.Proofs.YthiiinbkkjacbaaDoor

/- A region that draws its order, met operation by operation: what each operation leaves is said once, of whatever world and frame, and the orders need not be gone through. -/
namespace Go.Proofs.YthiiinbkkjacbaaDoor
open Go.RowKit

section
variable {P : Program} {ops : Array Oper} {Q : Exit → Act → World → Prop} {T : Nat → Value → World → Prop} {W : World → Prop} {a0 : Act}

/-- what is known of a frame that may stand in the midst of the region: the slots that the region does not write are as they were -/
structure Still (ops : Array Oper) (a0 a : Act) : Prop where
  size : a.tmps.size = a0.tmps.size
  defers : a.defers = a0.defers
  slot : ∀ d, (ops.all fun o => o.dst != some d) = true → a.tmps.getD d undef = a0.tmps.getD d undef
/-- the operations that o waits for have left what they leave -/
def Ahead (ops : Array Oper) (T : Nat → Value → World → Prop) (o : Oper) (a : Act) (w : World) : Prop :=
  ∀ e ∈ o.after, Region.binds .any e = true → ∀ d, (ops[e.on]?).bind (·.dst) = some d → T e.on (a.tmps.getD d undef) w
/-- what an operation leaves -/
def Leaves (T : Nat → Value → World → Prop) (W : World → Prop) (j : Nat) (o : Oper) (a : Act) (w : World) (a' : Act) (w' : World) : Prop :=
  ∃ v, a' = a.put o.dst v ∧ (o.dst ≠ none → T j v w') ∧ W w' ∧ Below w.heap.size w w'

structure Mid (ops : Array Oper) (T : Nat → Value → World → Prop) (W : World → Prop) (a0 : Act) (listed : Array Bool) (a : Act) (w : World) : Prop where
  still : Still ops a0 a
  done : ∀ j d, listed.getD j true = true → (ops[j]?).bind (·.dst) = some d → T j (a.tmps.getD d undef) w
  world : W w

/-- the edges lead to what stands ahead, no two operations write one slot, and all slots are there -/
def wellOrdered (ops : Array Oper) (n : Nat) : Bool :=
  (List.range ops.size).all fun j => match ops[j]? with
    | none => true
    | some o => (o.after.all fun e => decide (e.on < j)) && (match o.dst with
      | none => true
      | some d => decide (d < n) && (List.range ops.size).all fun i => i == j || (ops[i]?).bind (·.dst) != some d)

theorem getD_set (L : Array Bool) (i j : Nat) : (L.setIfInBounds i true).getD j true = if i = j then true else L.getD j true := by
  simp only [Array.getD_eq_getD_getElem?, Array.getElem?_setIfInBounds]
  split
  · subst_vars
    split <;> simp
  · rfl
def missing (ops : Array Oper) (listed : Array Bool) : Nat := (List.range ops.size).countP fun i => !listed.getD i true
theorem missing_set {listed : Array Bool} {i : Nat} (hi : i < ops.size) (h : listed.getD i true = false) : missing ops (listed.setIfInBounds i true) + 1 ≤ missing ops listed := by
  unfold missing
  have key : ∀ n, i < n → (List.range n).countP (fun k => !(listed.setIfInBounds i true).getD k true) + 1 ≤ (List.range n).countP (fun k => !listed.getD k true) := by
    have le : ∀ n, (List.range n).countP (fun k => !(listed.setIfInBounds i true).getD k true) ≤ (List.range n).countP (fun k => !listed.getD k true) := fun n =>
      List.countP_mono_left fun k _ hk => by
        rw [getD_set] at hk
        split at hk
        · simp at hk
        · exact hk
    intro n
    induction n with
    | zero => intro h; omega
    | succ n ih =>
      intro hn
      rw [List.range_succ, List.countP_append, List.countP_append]
      by_cases e : i = n
      · subst e
        have := le i
        have e1 : List.countP (fun k => !(listed.setIfInBounds i true).getD k true) [i] = 0 := by simp
        have e2 : List.countP (fun k => !listed.getD k true) [i] = 1 := by rw [List.countP_singleton, h]; rfl
        omega
      · have := ih (by omega)
        have e1 : List.countP (fun k => !(listed.setIfInBounds i true).getD k true) [n] = List.countP (fun k => !listed.getD k true) [n] := by
          rw [List.countP_singleton, List.countP_singleton, getD_set, if_neg e]
        omega
  exact key ops.size hi
theorem ready_of_missing {listed : Array Bool} (hw : wellOrdered ops a0.tmps.size = true) : ∀ n, n ≤ ops.size → Region.ready .any ops listed = [] → ∀ j, j < n → listed.getD j true = true := by
  intro n
  induction n with
  | zero => intro _ _ j hj; omega
  | succ n ih =>
    intro hn hr j hj
    have ih := ih (by omega) hr
    by_cases e : j = n
    · subst e
      by_cases hl : listed.getD j true = true
      · exact hl
      · exfalso
        have : j ∈ Region.ready .any ops listed := by
          unfold Region.ready
          refine List.mem_filter.2 ⟨List.mem_range.2 (by omega), ?_⟩
          have ho := Array.getElem?_eq_getElem (xs := ops) (i := j) (by omega)
          have hl' : listed.getD j true = false := by simpa using hl
          rw [hl', ho]
          simp only [Bool.not_false, Bool.true_and, Option.map_some, Option.getD_some]
          rw [Array.all_eq_true_iff_forall_mem]
          intro ed hed
          have hwj := List.all_eq_true.1 hw j (List.mem_range.2 (by omega))
          rw [ho] at hwj
          simp only [Bool.and_eq_true] at hwj
          have hlt := of_decide_eq_true (Array.all_eq_true_iff_forall_mem.1 hwj.1 ed hed)
          have h1 := ih ed.on hlt
          have : listed.getD ed.on false = true := by
            rcases Nat.lt_or_ge ed.on listed.size with h2 | h2
            · simp only [Array.getD_eq_getD_getElem?, Array.getElem?_eq_getElem h2, Option.getD_some] at h1 ⊢
              exact h1
            · have h3 : listed.getD j true = true := by simp [Array.getD_eq_getD_getElem?, Array.getElem?_eq_none (show listed.size ≤ j by omega)]
              rw [h3] at hl'
              cases hl'
          rw [this]
          simp
        rw [hr] at this
        cases this
    · exact ih j (by omega)

theorem typed_sound (hw : wellOrdered ops a0.tmps.size = true)
    (hT : ∀ j v w w', T j v w → Below w.heap.size w w' → T j v w')
    (step : ∀ j o, ops[j]? = some o → ∀ a w, Still ops a0 a → Ahead ops T o a w → W w → wpOp P ops Q j (Leaves T W j o a w) a w)
    (fin : ∀ a w, Still ops a0 a → (∀ j d, (ops[j]?).bind (·.dst) = some d → T j (a.tmps.getD d undef) w) → W w → Q .normal a w) :
    ∀ (fuel : Nat) (listed : Array Bool) (a : Act) (w : World), missing ops listed ≤ fuel → listed.size = ops.size → Mid ops T W a0 listed a w → wpAny P .any ops Q fuel listed a w := by
  have finish : ∀ (listed : Array Bool) (a : Act) (w : World), listed.size = ops.size → Mid ops T W a0 listed a w → Region.ready .any ops listed = [] → Q .normal a w := fun listed a w hsz hm hr => by
    have hall := ready_of_missing hw ops.size (Nat.le_refl _) hr
    refine fin a w hm.still (fun j d hd => hm.done j d ?_ hd) hm.world
    rcases Nat.lt_or_ge j ops.size with h | h
    · exact hall j h
    · rw [Array.getElem?_eq_none h] at hd
      cases hd
  intro fuel
  induction fuel with
  | zero =>
    intro listed a w hmis hsz hm
    have hr : Region.ready .any ops listed = [] := by
      rw [Region.ready, List.filter_eq_nil_iff]
      intro i hi
      have h0 : missing ops listed = 0 := by omega
      unfold missing at h0
      rw [List.countP_eq_zero] at h0
      have := h0 i hi
      simp only [Bool.not_eq_true, Bool.not_eq_false'] at this
      rw [this]
      simp
    exact ⟨hr, finish listed a w hsz hm hr⟩
  | succ fuel ih =>
    intro listed a w hmis hsz hm
    refine ⟨finish listed a w hsz hm, fun i hi => ?_⟩
    unfold Region.ready at hi
    obtain ⟨hr1, hr2⟩ := List.mem_filter.1 hi
    have hin : i < ops.size := List.mem_range.1 hr1
    have ho := Array.getElem?_eq_getElem (xs := ops) (i := i) hin
    rw [ho] at hr2
    simp only [Option.map_some, Option.getD_some, Bool.and_eq_true, Bool.not_eq_true'] at hr2
    have hun : listed.getD i true = false := by simpa using hr2.1
    have hahead : Ahead ops T ops[i] a w := fun e he hb d hd => by
      have h1 := Array.all_eq_true_iff_forall_mem.1 hr2.2 e he
      rw [hb] at h1
      simp only [Bool.not_true, Bool.false_or] at h1
      refine hm.done e.on d ?_ hd
      rcases Nat.lt_or_ge e.on listed.size with h2 | h2
      · simp only [Array.getD_eq_getD_getElem?, Array.getElem?_eq_getElem h2, Option.getD_some] at h1 ⊢
        exact h1
      · simp [Array.getD_eq_getD_getElem?, Array.getElem?_eq_none h2]
    refine wpOp_mono (fun a' w' h => ?_) (step i ops[i] ho a w hm.still hahead hm.world)
    obtain ⟨v, rfl, hv, hW', hb⟩ := h
    have hwi := List.all_eq_true.1 hw i (List.mem_range.2 hin)
    rw [ho] at hwi
    simp only [Bool.and_eq_true] at hwi
    refine ih (listed.setIfInBounds i true) _ w' (by have := missing_set (ops := ops) hin hun; omega) (by simpa using hsz) ⟨⟨?_, ?_, ?_⟩, ?_, hW'⟩
    · rw [← hm.still.size]
      cases ops[i].dst <;> simp [Act.put]
    · rw [← hm.still.defers]
      cases ops[i].dst <;> rfl
    · intro d hd
      rw [← hm.still.slot d hd]
      have hne := Array.all_eq_true_iff_forall_mem.1 hd ops[i] (Array.getElem_mem hin)
      cases hx : ops[i].dst with
      | none => rfl
      | some x =>
        rw [hx] at hne
        have : x ≠ d := by simpa using hne
        simp [Act.put, Array.getD_eq_getD_getElem?, Array.getElem?_setIfInBounds_ne this]
    · intro j d hl hd
      rw [getD_set] at hl
      by_cases e : i = j
      · subst e
        rw [ho] at hd
        have hd : ops[i].dst = some d := hd
        have hlt : d < a.tmps.size := by
          rw [hd] at hwi
          simp only [Bool.and_eq_true] at hwi
          have := of_decide_eq_true hwi.2.1
          rw [hm.still.size]
          exact this
        have e2 : (a.put ops[i].dst v).tmps.getD d undef = v := by
          rw [hd]
          simp [Act.put, Array.getD_eq_getD_getElem?, hlt]
        rw [e2]
        exact hv (by rw [hd]; simp)
      · rw [if_neg e] at hl
        have h1 := hT j _ w w' (hm.done j d hl hd) hb
        have e2 : (a.put ops[i].dst v).tmps.getD d undef = a.tmps.getD d undef := by
          cases hx : ops[i].dst with
          | none => rfl
          | some x =>
            rw [hx] at hwi
            simp only [Bool.and_eq_true] at hwi
            have hj : j < ops.size := by
              rcases Nat.lt_or_ge j ops.size with h | h
              · exact h
              · rw [Array.getElem?_eq_none h] at hd
                cases hd
            have h2 := List.all_eq_true.1 hwi.2.2 j (List.mem_range.2 hj)
            rw [hd] at h2
            have : x ≠ d := by
              rintro rfl
              simp at h2
              exact e h2.symm
            simp [Act.put, Array.getD_eq_getD_getElem?, Array.getElem?_setIfInBounds_ne this]
        rw [e2]
        exact h1

/-- THE LAW -/
theorem wp_region_typed {id : Nat} {w : World} (T : Nat → Value → World → Prop) (W : World → Prop) (hm : P.follows .mixedOrders = true) (hw : wellOrdered ops a0.tmps.size = true)
    (hT : ∀ j v w w', T j v w → Below w.heap.size w w' → T j v w') (h0 : W w.drew)
    (step : ∀ j o, ops[j]? = some o → ∀ a w, Still ops a0 a → Ahead ops T o a w → W w → wpOp P ops Q j (Leaves T W j o a w) a w)
    (fin : ∀ a w, Still ops a0 a → (∀ j d, (ops[j]?).bind (·.dst) = some d → T j (a.tmps.getD d undef) w) → W w → Q .normal a w) :
    (Code.region id ops true).wp P Q a0 w := by
  refine wp_region_any hm (typed_sound hw hT step fin ops.size _ a0 w.drew ?_ (by simp) ⟨⟨rfl, rfl, fun _ _ => rfl⟩, fun j d hl hd => ?_, h0⟩)
  · unfold missing
    exact Nat.le_trans List.countP_le_length (by simp)
  · exfalso
    rcases Nat.lt_or_ge j ops.size with h | h
    · simp [Array.getD_eq_getD_getElem?, h] at hl
    · rw [Array.getElem?_eq_none h] at hd
      cases hd

/-! ### the same, with each operation met by itself: its operands by what is known of them -/
def evalR (ρ : Tmp → Value) : Operand → Value
  | .tmp t => ρ t
  | .const v => v
  | .global g => .pointer (some ⟨g, 0, none⟩)
  | .func f => .func (.func f) #[] #[]
theorem evalR_tmp (ρ : Tmp → Value) (t : Tmp) : evalR ρ (.tmp t) = ρ t := rfl
theorem evalR_const (ρ : Tmp → Value) (v : Value) : evalR ρ (.const v) = v := rfl
theorem evalR_global (ρ : Tmp → Value) (g : Nat) : evalR ρ (.global g) = .pointer (some ⟨g, 0, none⟩) := rfl
theorem evalR_func (ρ : Tmp → Value) (f : FuncId) : evalR ρ (.func f) = .func (.func f) #[] #[] := rfl
/-- the operation runs, and what comes of it meets Kv -/
def Does (P : Program) (o : Oper) (ρ : Tmp → Value) (w : World) (Kv : Value → World → Prop) : Prop :=
  match (execOp (evalR ρ) o).run P w with
  | .ok (.value v) w' => Kv v w'
  | .ok .skip w' => Kv undef w'
  | .ok (.enter f args) w' => Calls P f args w' fun e w'' => ∃ v, e = .returned v ∧ Kv v w''
  | _ => False
/-- which operation of the region writes a slot -/
def srcOf (ops : Array Oper) (t : Tmp) : Option Nat := (List.range ops.size).find? fun i => (ops[i]?).bind (·.dst) == some t
/-- what is known of a slot that an operation reads -/
def Fact (ops : Array Oper) (a0 : Act) (T : Nat → Value → World → Prop) (t : Tmp) (v : Value) (w : World) : Prop :=
  match srcOf ops t with
  | none => v = a0.tmps.getD t undef
  | some i => T i v w
def reads (o : Oper) : List Tmp := o.op.operands.toList.filterMap fun | .tmp t => some t | _ => none
def waits (o : Oper) (i : Nat) : Bool := o.after.any fun e => e.on == i && Region.binds .any e
/-- every slot that is read, and every guard, is of an operation that is waited for -/
def covered (ops : Array Oper) : Bool := ops.all fun o =>
  ((reads o).all fun t => match srcOf ops t with
    | none => true
    | some i => waits o i) && (match o.guard with
    | none => true
    | some (g, _) => waits o g && ((ops[g]?).bind (·.dst)).isSome)
/-- one operation, of whatever world and operands -/
def StepOk (P : Program) (ops : Array Oper) (a0 : Act) (T : Nat → Value → World → Prop) (W : World → Prop) (j : Nat) (o : Oper) : Prop :=
  ∀ ρ w, (∀ t ∈ reads o, Fact ops a0 T t (ρ t) w) → W w → Does P o ρ w fun v w' => T j v w' ∧ W w' ∧ Below w.heap.size w w'
def Steps (p : Nat → Oper → Prop) : Nat → List Oper → Prop
  | _, [] => True
  | j, o :: r => p j o ∧ Steps p (j + 1) r
theorem Steps.at {p : Nat → Oper → Prop} : ∀ {l : List Oper} {k : Nat}, Steps p k l → ∀ j o, l[j]? = some o → p (k + j) o
  | [], _, _, j, o, h => by simp at h
  | x :: r, k, hs, 0, o, h => by
    simp at h
    subst h
    exact hs.1
  | x :: r, k, hs, j + 1, o, h => by
    have := hs.2.at j o (by simpa using h)
    rwa [Nat.add_assoc, Nat.add_comm 1 j] at this

theorem does_wpOp {j : Nat} {o : Oper} {ρ : Tmp → Value} {a : Act} {w : World} (hi : ops[j]? = some o) (hsel : ∀ cs b, o.op ≠ .select cs b) (hr : ∀ t ∈ reads o, a.tmps.getD t undef = ρ t)
    (hg : Region.wanted o (yielded ops a.tmps) = true) (h : Does P o ρ w fun v w' => T j v w' ∧ W w' ∧ Below w.heap.size w w') : wpOp P ops Q j (Leaves T W j o a w) a w := by
  have he : execOp a.eval o = execOp (evalR ρ) o := execOp_congr o hsel fun x hx => by
    cases x with
    | tmp t => exact hr t (List.mem_filterMap.2 ⟨.tmp t, by simpa using hx, rfl⟩)
    | _ => rfl
  unfold wpOp
  simp only [hi, hg, if_true]
  refine .inl ?_
  unfold Oper.wp Does at *
  rw [he]
  generalize (execOp (evalR ρ) o).run P w = r at *
  cases r with
  | ok n w' =>
    cases n <;> simp only [Oper.upon] at h ⊢
    case value v => exact ⟨v, rfl, fun _ => h.1, h.2.1, h.2.2⟩
    case skip => exact ⟨undef, rfl, fun _ => h.1, h.2.1, h.2.2⟩
    case enter f args =>
      refine Calls.mono h fun e w'' he => ?_
      obtain ⟨v, rfl, h1, h2, h3⟩ := he
      exact ⟨v, rfl, fun _ => h1, h2, h3⟩
  | halt x w' => exact h.elim

/-- THE LAW, operation by operation -/
theorem wp_region_steps {id : Nat} {w : World} (T : Nat → Value → World → Prop) (W : World → Prop) (hm : P.follows .mixedOrders = true) (hw : wellOrdered ops a0.tmps.size = true) (hcov : covered ops = true) (hs : Region.noSelect ops = true)
    (hT : ∀ j v w w', T j v w → Below w.heap.size w w' → T j v w') (h0 : W w.drew)
    (gs : List Nat) (hguard : ops.all (fun o => match o.guard with
      | none => true
      | some (g, b) => b && gs.contains g) = true)
    (htrue : ∀ g ∈ gs, ∀ v w, T g v w → v = .bool true)
    (steps : Steps (StepOk P ops a0 T W) 0 ops.toList)
    (fin : ∀ a w, Still ops a0 a → (∀ j d, (ops[j]?).bind (·.dst) = some d → T j (a.tmps.getD d undef) w) → W w → Q .normal a w) :
    (Code.region id ops true).wp P Q a0 w := by
  refine wp_region_typed T W hm hw hT h0 (fun j o ho a w1 hst ha hW => ?_) fin
  have hc := Array.all_eq_true_iff_forall_mem.1 hcov o (Array.mem_of_getElem? ho)
  simp only [Bool.and_eq_true] at hc
  have wait : ∀ i d, waits o i = true → (ops[i]?).bind (·.dst) = some d → T i (a.tmps.getD d undef) w1 := fun i d hwt hd => by
    unfold waits at hwt
    obtain ⟨e, he, h1⟩ := Array.any_eq_true'.1 hwt
    simp only [Bool.and_eq_true, beq_iff_eq] at h1
    obtain ⟨rfl, h2⟩ := h1
    exact ha e he h2 d hd
  have hst1 := steps.at j o (by simpa using ho)
  rw [Nat.zero_add] at hst1
  refine does_wpOp ho (fun cs b => Region.noSelect_spec hs j o cs b ho) (ρ := fun t => a.tmps.getD t undef) (fun t _ => rfl) ?_ (hst1 _ w1 (fun t ht => ?_) hW)
  · unfold Region.wanted
    cases hgd : o.guard with
    | none => rfl
    | some gb =>
      obtain ⟨g, b⟩ := gb
      have hb := Array.all_eq_true_iff_forall_mem.1 hguard o (Array.mem_of_getElem? ho)
      rw [hgd] at hb
      have hb : (b && gs.contains g) = true := hb
      simp only [Bool.and_eq_true] at hb
      obtain ⟨rfl, hgs⟩ := hb
      have hc2 := hc.2
      rw [hgd] at hc2
      simp only [Bool.and_eq_true] at hc2
      obtain ⟨d, hd⟩ := Option.isSome_iff_exists.1 hc2.2
      have hv := htrue g (by simpa using hgs) _ _ (wait g d hc2.1 hd)
      have : yielded ops a.tmps g = some true := by
        unfold yielded
        rw [hd]
        simp only [Option.bind_some]
        rcases Nat.lt_or_ge d a.tmps.size with h | h
        · simp only [Array.getD_eq_getD_getElem?, Array.getElem?_eq_getElem h, Option.getD_some] at hv
          rw [Array.getElem?_eq_getElem h, hv]
        · simp only [Array.getD_eq_getD_getElem?, Array.getElem?_eq_none h, Option.getD_none] at hv
          cases hv
      show (yielded ops a.tmps g == some true) = true
      rw [this]
      rfl
  · have h1 := List.all_eq_true.1 hc.1 t ht
    unfold Fact
    cases hsrc : srcOf ops t with
    | none =>
      refine hst.slot t ?_
      rw [Array.all_eq_true_iff_forall_mem]
      intro o' ho'
      obtain ⟨i, hi, rfl⟩ := Array.mem_iff_getElem.1 ho'
      unfold srcOf at hsrc
      have := List.find?_eq_none.1 hsrc i (List.mem_range.2 hi)
      rw [Array.getElem?_eq_getElem hi] at this
      simpa using this
    | some i =>
      rw [hsrc] at h1
      refine wait i t h1 ?_
      unfold srcOf at hsrc
      simpa using List.find?_some hsrc

/-! ### what a slot holds, as a list over the region's operations -/
def Is (v0 : Value) : Value → World → Prop := fun v _ => v = v0
def isTrue : Value → World → Prop := Is (.bool true)
def typ (L : List (Value → World → Prop)) (j : Nat) (v : Value) (w : World) : Prop := L.getD j (fun _ _ => True) v w
theorem typ_mono {L : List (Value → World → Prop)} (h : ∀ p ∈ L, ∀ v w w', p v w → Below w.heap.size w w' → p v w') : ∀ j v w w', typ L j v w → Below w.heap.size w w' → typ L j v w' := fun j v w w' h1 h2 => by
  unfold typ at *
  rw [List.getD_eq_getElem?_getD] at *
  cases hl : L[j]? with
  | none => trivial
  | some p =>
    rw [hl] at h1
    exact h p (List.mem_of_getElem? hl) v w w' h1 h2
theorem is_mono (v0 : Value) : ∀ v w w', Is v0 v w → Below w.heap.size w w' → Is v0 v w' := fun _ _ _ h _ => h
end
end Go.Proofs.YthiiinbkkjacbaaDoor

/- Blocks of two numbers (structs of two ints), and results that are such structs, with and without a plain result behind them. -/
namespace Go.Proofs.YthiiinbkkjacbaaDoor
open Go.RowKit

/-- block B is a struct of two numbers -/
def PairAt (t : TypeId) (w : World) (B : Nat) (a b : Int) : Prop := w.heap[B]? = some (.cells #[.int .i64 a, .int .i64 b] t (0, 0))
theorem PairAt.facts {t : TypeId} {w : World} {B : Nat} {a b : Int} (h : PairAt t w B a b) :
    w.cell? ⟨B, 0, none⟩ = some (.int .i64 a) ∧ w.cell? ⟨B, 1, none⟩ = some (.int .i64 b) ∧ w.frozen? ⟨B, 0, none⟩ = false ∧ w.frozen? ⟨B, 1, none⟩ = false :=
  ⟨cell_of_row w B 0 _ _ _ h, cell_of_row w B 1 _ _ _ h, frozen_of_row w B 0 _ _ h, frozen_of_row w B 1 _ _ h⟩
theorem PairAt.lt {t : TypeId} {w : World} {B : Nat} {a b : Int} (h : PairAt t w B a b) : B < w.heap.size := by
  rcases Nat.lt_or_ge B w.heap.size with hlt | hge
  · exact hlt
  · unfold PairAt at h
    rw [Array.getElem?_eq_none hge] at h
    cases h
theorem PairAt.below {t : TypeId} {w w' : World} {B : Nat} {a b : Int} (h : PairAt t w B a b) (hb : Below w.heap.size w w') : PairAt t w' B a b :=
  (hb.block B h.lt).trans h
theorem PairAt.kept {t : TypeId} {w w' : World} {B n : Nat} {a b : Int} (h : PairAt t w B a b) (hb : Below n w w') (hB : B < n) : PairAt t w' B a b :=
  (hb.block B hB).trans h
theorem PairAt.new (t : TypeId) (w : World) (a b : Int) : PairAt t (w.alloc (.cells #[.int .i64 a, .int .i64 b] t)) w.heap.size a b := heap_alloc_new w _
theorem PairAt.alloc {t : TypeId} {w : World} {B : Nat} {a b : Int} (h : PairAt t w B a b) (o : Obj) : PairAt t (w.alloc o) B a b :=
  (heap_alloc_old w _ h.lt).trans h
theorem PairAt.stored {t : TypeId} {w : World} {B : Nat} {a b : Int} (h : PairAt t w B a b) (a' b' : Int) :
    PairAt t ((w.setCell ⟨B, 0, none⟩ (.int .i64 a')).setCell ⟨B, 1, none⟩ (.int .i64 b')) B a' b' :=
  heap_setCell_same _ B 1 _ _ _ (heap_setCell_same _ B 0 _ _ _ h)
theorem PairAt.other {t : TypeId} {w : World} {B b i : Nat} {x y : Int} (h : PairAt t w B x y) (hne : B ≠ b) (v : Value) : PairAt t (w.setCell ⟨b, i, none⟩ v) B x y := by
  unfold PairAt at h ⊢
  rw [heap_setCell_other _ _ _ _ hne, h]
theorem PairAt.drew {t : TypeId} {w : World} {B : Nat} {a b : Int} (h : PairAt t w B a b) : PairAt t w.drew B a b := h

theorem ret_pair {fn : Func} {R : Ending → World → Prop} {a : Act} {w : World} {B p : Nat} {x y : Int} {t : TypeId} {fs : Array Field} (hf : fn.results = #[.cell p t]) (hp : a.tmps.getD p undef = .pointer (some ⟨B, 0, none⟩))
    (hd : a.defers = []) (hS : PairAt t w B x y) (hu : Tryd.prog.underlying t = some (.struct fs)) (hi : (Tryd.prog.info? t).map (·.size) = some 2)
    (hR : R (.returned (.agg #[.int .i64 x, .int .i64 y])) w) : bodyPost Tryd.prog fn R .ret a w :=
  bodyPost_ret (results_cell_row hf _ w B t _ (0, 0) _ hp hS hu rfl hi) hd hR
theorem ret_pair_tmp {fn : Func} {R : Ending → World → Prop} {a : Act} {w : World} {B p u : Nat} {x y : Int} {t : TypeId} {fs : Array Field} {v : Value} (hf : fn.results = #[.cell p t, .tmp u]) (hp : a.tmps.getD p undef = .pointer (some ⟨B, 0, none⟩))
    (hv : a.tmps.getD u undef = v)
    (hd : a.defers = []) (hS : PairAt t w B x y) (hu : Tryd.prog.underlying t = some (.struct fs)) (hi : (Tryd.prog.info? t).map (·.size) = some 2)
    (hR : R (.returned (.tuple #[.agg #[.int .i64 x, .int .i64 y], v])) w) : bodyPost Tryd.prog fn R .ret a w := by
  refine bodyPost_ret ?_ hd hR
  rw [results_cell_tmp hf, hp]
  simp only [asAddr, Sem.run_pure, Result.andThen]
  rw [run_loadVar_row w B t t _ (0, 0) _ hS hu rfl hi]
  simp only [hv]
theorem PairAt.made {t : TypeId} {w : World} {a b : Int} {B : Nat} (h : B = w.heap.size) : PairAt t (w.alloc (.cells #[.int .i64 a, .int .i64 b] t)) B a b := by
  subst h
  exact PairAt.new t w a b
theorem ret_p {a b c d : Int} (h : a = c) (h' : b = d) : Ending.returned (.agg #[.int .i64 a, .int .i64 b]) = .returned (.agg #[.int .i64 c, .int .i64 d]) := by rw [h, h']
theorem ret_pb {a b c d : Int} {x y : Bool} (h : a = c) (h' : b = d) (h2 : x = y) : Ending.returned (.tuple #[.agg #[.int .i64 a, .int .i64 b], .bool x]) = .returned (.tuple #[.agg #[.int .i64 c, .int .i64 d], .bool y]) := by rw [h, h', h2]
set_option maxRecDepth 100000 in
open Go.ChangeShapes Go.WideShapes Go.Joins Go.Deep in
/-- an argument that is a struct of two ints -/
theorem open_pair {H : Type} {enc : TypeId × Value → H} {w : World} {base : Nat} {sp : Nat → Bool} {hd : Bool} {r : Reach} {b0 : Nat} {t : TypeId} {f0 f1 : Field} {v : Value} {d : DataW H} {p : List MemPlace}
    (hs : Tryd.prog.underlying t = some (.struct #[f0, f1])) (e0 : Tryd.prog.underlying f0.type = some (.int .i64)) (e1 : Tryd.prog.underlying f1.type = some (.int .i64)) (hone : oneCellFields Tryd.prog #[f0, f1] = true) (hC : Tryd.prog.cellsOf t = 2)
    (hv : Value.okWide Tryd.prog w r b0 t v) (h : DataW.Trod enc Tryd.prog w base sp hd t v d p) : ∃ a b : Int, v = .agg #[.int .i64 a, .int .i64 b] ∧ (Lit.int .i64 a).wf = true ∧ (Lit.int .i64 b).wf = true := by
  obtain ⟨v0, v1, y0, y1, n, rfl, _, _, h0, h1⟩ := open_agg2 hs hone hC hv h
  obtain ⟨x0, k0, _, w0⟩ := DataW.trod_int e0 h0
  obtain ⟨x1, k1, _, w1⟩ := DataW.trod_int e1 h1
  simp at k0 k1
  subst k0 k1
  exact ⟨x0, x1, rfl, w0, w1⟩
/-- block B is one cell -/
def OneAt (t : TypeId) (w : World) (B : Nat) (v : Value) : Prop := w.heap[B]? = some (.cells #[v] t (0, 0))
theorem OneAt.cell {t : TypeId} {w : World} {B : Nat} {v : Value} (h : OneAt t w B v) : w.cell? ⟨B, 0, none⟩ = some v := cell_of_row w B 0 _ _ _ h
theorem OneAt.frozen {t : TypeId} {w : World} {B : Nat} {v : Value} (h : OneAt t w B v) : w.frozen? ⟨B, 0, none⟩ = false := frozen_of_row w B 0 _ _ h
theorem OneAt.kept {t : TypeId} {w w' : World} {B n : Nat} {v : Value} (h : OneAt t w B v) (hb : Below n w w') (hB : B < n) : OneAt t w' B v := (hb.block B hB).trans h
theorem OneAt.lt {t : TypeId} {w : World} {B : Nat} {v : Value} (h : OneAt t w B v) : B < w.heap.size := by
  rcases Nat.lt_or_ge B w.heap.size with hlt | hge
  · exact hlt
  · unfold OneAt at h
    rw [Array.getElem?_eq_none hge] at h
    cases h
theorem OneAt.made {t : TypeId} {w : World} {v : Value} {B : Nat} (h : B = w.heap.size) : OneAt t (w.alloc (.cells #[v] t)) B v := by
  subst h
  exact heap_alloc_new w _
theorem OneAt.alloc {t : TypeId} {w : World} {B : Nat} {v : Value} (h : OneAt t w B v) (o : Obj) : OneAt t (w.alloc o) B v := (heap_alloc_old w _ h.lt).trans h
theorem OneAt.stored {t : TypeId} {w : World} {B : Nat} {v : Value} (h : OneAt t w B v) (v' : Value) : OneAt t (w.setCell ⟨B, 0, none⟩ v') B v' := heap_setCell_same _ B 0 _ _ _ h
theorem OneAt.other {t : TypeId} {w : World} {B b i : Nat} {v : Value} (h : OneAt t w B v) (hne : B ≠ b) (u : Value) : OneAt t (w.setCell ⟨b, i, none⟩ u) B v := by
  unfold OneAt at h ⊢
  rw [heap_setCell_other _ _ _ _ hne, h]
theorem results_cells2 {fn : Func} {p q : Tmp} {t u : TypeId} (h : fn.results = #[.cell p t, .cell q u]) (tmps : Array Value) (P : Program) (w : World) :
    (results fn tmps).run P w =
      ((asAddr (tmps.getD p undef)).run P w).andThen fun a w₁ => ((loadVar t a).run P w₁).andThen fun v w₂ => ((asAddr (tmps.getD q undef)).run P w₂).andThen fun b w₃ => ((loadVar u b).run P w₃).andThen fun x w₄ => .ok (.tuple #[v, x]) w₄ := by
  simp only [results, h]
  simp [Sem.run_bind, Result.andThen]
theorem below_two {B : Nat} {a w : World} (h : Below B a w) (b : Nat) (hb : B ≤ b) (v0 v1 : Value) :
    Below B a ((w.setCell ⟨b, 0, none⟩ v0).setCell ⟨b, 1, none⟩ v1) := (h.setCell hb _).setCell hb _
end Go.Proofs.YthiiinbkkjacbaaDoor
