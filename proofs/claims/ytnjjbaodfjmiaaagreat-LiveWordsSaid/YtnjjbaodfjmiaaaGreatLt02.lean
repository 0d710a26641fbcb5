/- Two, RxMath, SetMath, SetEq, put together. -/
import Derived.Test.YtnjjbaodfjmiaaaGreatLt01
import Derived.Lib.TrailingZeros
import Derived.Laws.BitsAllLaws
import Derived.ChangeKeysEq
import Derived.Laws.StructEq
import Derived.Handy
/- Blocks of two cells of any one-cell values (structs of two fields), and results that are such structs, with and without a plain result behind them. -/
namespace Go.Proofs.YtnjjbaodfjmiaaaGreat
open Go.RowKit

/-- block B is a struct of two one-cell fields -/
def TwoAt (t : TypeId) (w : World) (B : Nat) (u v : Value) : Prop := w.heap[B]? = some (.cells #[u, v] t (0, 0))
theorem TwoAt.cell0 {t : TypeId} {w : World} {B : Nat} {u v : Value} (h : TwoAt t w B u v) : w.cell? ⟨B, 0, none⟩ = some u := cell_of_row w B 0 _ _ _ h
theorem TwoAt.cell1 {t : TypeId} {w : World} {B : Nat} {u v : Value} (h : TwoAt t w B u v) : w.cell? ⟨B, 1, none⟩ = some v := cell_of_row w B 1 _ _ _ h
theorem TwoAt.frozen0 {t : TypeId} {w : World} {B : Nat} {u v : Value} (h : TwoAt t w B u v) : w.frozen? ⟨B, 0, none⟩ = false := frozen_of_row w B 0 _ _ h
theorem TwoAt.frozen1 {t : TypeId} {w : World} {B : Nat} {u v : Value} (h : TwoAt t w B u v) : w.frozen? ⟨B, 1, none⟩ = false := frozen_of_row w B 1 _ _ h
theorem TwoAt.lt {t : TypeId} {w : World} {B : Nat} {u v : Value} (h : TwoAt t w B u v) : B < w.heap.size := by
  rcases Nat.lt_or_ge B w.heap.size with hlt | hge
  · exact hlt
  · unfold TwoAt at h
    rw [Array.getElem?_eq_none hge] at h
    cases h
theorem TwoAt.kept {t : TypeId} {w w' : World} {B n : Nat} {u v : Value} (h : TwoAt t w B u v) (hb : Below n w w') (hB : B < n) : TwoAt t w' B u v := (hb.block B hB).trans h
theorem TwoAt.below {t : TypeId} {w w' : World} {B : Nat} {u v : Value} (h : TwoAt t w B u v) (hb : Below w.heap.size w w') : TwoAt t w' B u v := h.kept hb h.lt
theorem TwoAt.new (t : TypeId) (w : World) (u v : Value) : TwoAt t (w.alloc (.cells #[u, v] t)) w.heap.size u v := heap_alloc_new w _
theorem TwoAt.made {t : TypeId} {w : World} {u v : Value} {B : Nat} (h : B = w.heap.size) : TwoAt t (w.alloc (.cells #[u, v] t)) B u v := by
  subst h
  exact TwoAt.new t w u v
theorem TwoAt.alloc {t : TypeId} {w : World} {B : Nat} {u v : Value} (h : TwoAt t w B u v) (o : Obj) : TwoAt t (w.alloc o) B u v := (heap_alloc_old w _ h.lt).trans h
theorem TwoAt.stored0 {t : TypeId} {w : World} {B : Nat} {u v : Value} (h : TwoAt t w B u v) (u' : Value) : TwoAt t (w.setCell ⟨B, 0, none⟩ u') B u' v := heap_setCell_same _ B 0 _ _ _ h
theorem TwoAt.stored1 {t : TypeId} {w : World} {B : Nat} {u v : Value} (h : TwoAt t w B u v) (v' : Value) : TwoAt t (w.setCell ⟨B, 1, none⟩ v') B u v' := heap_setCell_same _ B 1 _ _ _ h
theorem TwoAt.stored {t : TypeId} {w : World} {B : Nat} {u v : Value} (h : TwoAt t w B u v) (u' v' : Value) : TwoAt t ((w.setCell ⟨B, 0, none⟩ u').setCell ⟨B, 1, none⟩ v') B u' v' := (h.stored0 u').stored1 v'
theorem TwoAt.other {t : TypeId} {w : World} {B b i : Nat} {x y : Value} (h : TwoAt t w B x y) (hne : B ≠ b) (v : Value) : TwoAt t (w.setCell ⟨b, i, none⟩ v) B x y := by
  unfold TwoAt at h ⊢
  rw [heap_setCell_other _ _ _ _ hne, h]
theorem TwoAt.drew {t : TypeId} {w : World} {B : Nat} {u v : Value} (h : TwoAt t w B u v) : TwoAt t w.drew B u v := h

theorem ret_two {fn : Func} {R : Ending → World → Prop} {a : Act} {w : World} {B p : Nat} {x y : Value} {t : TypeId} {fs : Array Field} (hf : fn.results = #[.cell p t]) (hp : a.tmps.getD p undef = .pointer (some ⟨B, 0, none⟩))
    (hd : a.defers = []) (hS : TwoAt t w B x y) (hu : Tryz.prog.underlying t = some (.struct fs)) (hi : (Tryz.prog.info? t).map (·.size) = some 2)
    (hR : R (.returned (.agg #[x, y])) w) : bodyPost Tryz.prog fn R .ret a w :=
  bodyPost_ret (results_cell_row hf _ w B t _ (0, 0) _ hp hS hu rfl hi) hd hR
theorem ret_two_tmp {fn : Func} {R : Ending → World → Prop} {a : Act} {w : World} {B p u : Nat} {x y : Value} {t : TypeId} {fs : Array Field} {v : Value} (hf : fn.results = #[.cell p t, .tmp u]) (hp : a.tmps.getD p undef = .pointer (some ⟨B, 0, none⟩))
    (hv : a.tmps.getD u undef = v)
    (hd : a.defers = []) (hS : TwoAt t w B x y) (hu : Tryz.prog.underlying t = some (.struct fs)) (hi : (Tryz.prog.info? t).map (·.size) = some 2)
    (hR : R (.returned (.tuple #[.agg #[x, y], v])) w) : bodyPost Tryz.prog fn R .ret a w := by
  refine bodyPost_ret ?_ hd hR
  rw [results_cell_tmp hf, hp]
  simp only [asAddr, Sem.run_pure, Result.andThen]
  rw [run_loadVar_row w B t t _ (0, 0) _ hS hu rfl hi]
  simp only [hv]
end Go.Proofs.YtnjjbaodfjmiaaaGreat

/- Lists of steps: what they come to, without the program. -/
namespace Go.Proofs.YtnjjbaodfjmiaaaGreat

/-- one step: its kind, and the four words of its set -/
structure Stp where
  k : Int
  a : Int
  b : Int
  c : Int
  d : Int
instance stp_one : Inhabited Stp := ⟨⟨0, 0, 0, 0, 0⟩⟩
def Stp.val (s : Stp) : Value := .agg #[.int .i64 s.k, .int .u64 s.a, .int .u64 s.b, .int .u64 s.c, .int .u64 s.d]
def Stp.cells (s : Stp) : List Value := [.int .i64 s.k, .int .u64 s.a, .int .u64 s.b, .int .u64 s.c, .int .u64 s.d]
/-- a step of a kind, without a set -/
def kStp (k : Int) : Stp := ⟨k, 0, 0, 0, 0⟩
/-- of how many parts a kind is -/
def kOps (k : Int) : Int := if k = 1 ∨ k = 2 then 0 else if k = 3 ∨ k = 4 then 2 else if k = 5 ∨ k = 6 ∨ k = 7 then 1 else -1
theorem kOps_range (k : Int) : -1 ≤ kOps k ∧ kOps k ≤ 2 := by
  unfold kOps
  split <;> (try split) <;> (try split) <;> omega
def Stp.plain (s : Stp) : Prop := s.k = 1 ∨ (s.a = 0 ∧ s.b = 0 ∧ s.c = 0 ∧ s.d = 0)
instance plain_dec (s : Stp) : Decidable s.plain := by unfold Stp.plain; infer_instance
def Stp.good (s : Stp) : Prop := 0 ≤ kOps s.k ∧ s.plain
instance good_dec (s : Stp) : Decidable s.good := by unfold Stp.good; infer_instance
/-- the greatest number of parts, and what is wrong -/
def measGo : List Stp → Int → Int → Int × Int
  | [], p, h => if p = 1 then (h, 0) else (0, 3)
  | s :: r, p, h => if s.good then (if p < kOps s.k then (0, 3) else measGo r (p + (1 - kOps s.k)) (max h (p + (1 - kOps s.k)))) else (0, 1)
def measV (l : List Stp) : Int × Int := if 512 < l.length then (0, 4) else measGo l 0 0
/-- where the part begins that ends ahead of step n, where m parts are missing -/
def begGo (l : List Stp) : Nat → Int → Int
  | 0, _ => -1
  | n + 1, m => if kOps (l.getD n default).k < 0 then -1 else if m + (kOps (l.getD n default).k - 1) = 0 then n else begGo l n (m + (kOps (l.getD n default).k - 1))
def begV (l : List Stp) (i : Int) : Int := if i < 0 ∨ (l.length : Int) ≤ i then -1 else begGo l (i.toNat + 1) 1

theorem meas_err : ∀ (l : List Stp) (p h : Int), (measGo l p h).2 = 0 ∨ (measGo l p h).2 = 1 ∨ (measGo l p h).2 = 3
  | [], p, h => by
    unfold measGo
    split <;> simp
  | s :: r, p, h => by
    unfold measGo
    split
    · split
      · simp
      · exact meas_err r _ _
    · simp

/-! ### what an expression is: parts at each place -/
/-- how many parts the steps leave -/
def net : List Stp → Int
  | [] => 0
  | s :: r => (1 - kOps s.k) + net r
theorem net_append : ∀ a b, net (a ++ b) = net a + net b
  | [], b => by simp [net]
  | s :: r, b => by
    simp only [List.cons_append, net, net_append r b]
    omega
/-- the steps go through behind p parts -/
def Goes : List Stp → Int → Prop
  | [], _ => True
  | s :: r, p => s.good ∧ kOps s.k ≤ p ∧ Goes r (p + (1 - kOps s.k))
/-- the greatest number of parts behind p of them -/
def peak : List Stp → Int → Int → Int
  | [], _, h => h
  | s :: r, p, h => peak r (p + (1 - kOps s.k)) (max h (p + (1 - kOps s.k)))
theorem goes_meas : ∀ (l : List Stp) (p h : Int), Goes l p → measGo l p h = if p + net l = 1 then (peak l p h, 0) else (0, 3)
  | [], p, h, _ => by simp [measGo, net, peak]
  | s :: r, p, h, ⟨h1, h2, h3⟩ => by
    rw [measGo, if_pos h1, if_neg (by omega), goes_meas r _ _ h3]
    have e : p + (1 - kOps s.k) + net r = p + net (s :: r) := by
      simp only [net]
      omega
    rw [e]
    rfl
theorem meas_goes : ∀ (l : List Stp) (p h : Int), (measGo l p h).2 = 0 → Goes l p ∧ p + net l = 1
  | [], p, h, e => by
    refine ⟨trivial, ?_⟩
    unfold measGo at e
    split at e
    · simpa [net]
    · simp at e
  | s :: r, p, h, e => by
    unfold measGo at e
    split at e
    · rename_i hg
      split at e
      · simp at e
      · have := meas_goes r _ _ e
        refine ⟨⟨hg, by omega, this.1⟩, ?_⟩
        simp only [net]
        omega
    · simp at e
theorem goes_append : ∀ (a b : List Stp) (p : Int), Goes (a ++ b) p ↔ Goes a p ∧ Goes b (p + net a)
  | [], b, p => by simp [Goes, net]
  | s :: r, b, p => by
    simp only [List.cons_append, Goes, goes_append r b, net]
    rw [show p + (1 - kOps s.k) + net r = p + (1 - kOps s.k + net r) by omega]
    constructor
    · rintro ⟨h1, h2, h3, h4⟩
      exact ⟨⟨h1, h2, h3⟩, h4⟩
    · rintro ⟨⟨h1, h2, h3⟩, h4⟩
      exact ⟨h1, h2, h3, h4⟩
theorem goes_more : ∀ (a : List Stp) (p q : Int), Goes a p → p ≤ q → Goes a q
  | [], _, _, _, _ => trivial
  | s :: r, p, q, ⟨h1, h2, h3⟩, h => ⟨h1, by omega, goes_more r _ _ h3 (by omega)⟩
theorem peak_append : ∀ (a b : List Stp) (p h : Int), peak (a ++ b) p h = peak b (p + net a) (peak a p h)
  | [], b, p, h => by simp [peak, net]
  | s :: r, b, p, h => by
    simp only [List.cons_append, peak, peak_append r b, net]
    rw [show p + (1 - kOps s.k) + net r = p + (1 - kOps s.k + net r) by omega]
theorem peak_max : ∀ (a : List Stp) (p h g : Int), peak a p (max h g) = max (peak a p h) g
  | [], p, h, g => rfl
  | s :: r, p, h, g => by
    simp only [peak]
    rw [show max (max h g) (p + (1 - kOps s.k)) = max (max h (p + (1 - kOps s.k))) g by omega]
    exact peak_max r _ _ _
theorem peak_shift : ∀ (a : List Stp) (p h q : Int), peak a (p + q) (h + q) = peak a p h + q
  | [], p, h, q => rfl
  | s :: r, p, h, q => by
    simp only [peak]
    have := peak_shift r (p + (1 - kOps s.k)) (max h (p + (1 - kOps s.k))) q
    rw [← this]
    congr 1 <;> omega
theorem peak_ge : ∀ (a : List Stp) (p h : Int), h ≤ peak a p h
  | [], p, h => Int.le_refl _
  | s :: r, p, h => by
    have := peak_ge r (p + (1 - kOps s.k)) (max h (p + (1 - kOps s.k)))
    simp only [peak]
    omega
/-- behind each beginning of steps that go through, but the empty one, there is a part -/
theorem goes_part : ∀ (a : List Stp) (p : Int), Goes a p → 0 ≤ p → ∀ n, 0 < n → n ≤ a.length → 1 ≤ p + net (a.take n)
  | [], _, _, _, n, h1, h2 => by simp at h2; omega
  | s :: r, p, ⟨h1, h2, h3⟩, hp, n, hn, hl => by
    obtain ⟨m, rfl⟩ : ∃ m, n = m + 1 := ⟨n - 1, by omega⟩
    simp only [List.take_succ_cons, net]
    have h0 := h1.1
    by_cases hm : m = 0
    · subst hm
      simp [net]
      omega
    · have := goes_part r _ h3 (by omega) m (by omega) (by simpa using hl)
      omega
theorem goes_good : ∀ (a : List Stp) (p : Int), Goes a p → ∀ s ∈ a, s.good
  | [], _, _, s, h => by simp at h
  | x :: r, p, ⟨h1, _, h3⟩, s, h => by
    rcases List.mem_cons.1 h with rfl | h
    · exact h1
    · exact goes_good r _ h3 s h
theorem net_take_more (l : List Stp) (n : Nat) (h : n < l.length) : net (l.take (n + 1)) = net (l.take n) + (1 - kOps (l.getD n default).k) := by
  rw [List.take_succ_eq_append_getElem h, net_append, List.getD_eq_getElem?_getD, List.getElem?_eq_getElem h]
  simp [net]
/-- going back, the part begins where the count falls to what it was -/
theorem beg_at (l : List Stp) (at' e : Nat) (he : e ≤ l.length) (hg : ∀ j, at' ≤ j → j < e → 0 ≤ kOps (l.getD j default).k) (h0 : net (l.take at') + 1 = net (l.take e)) (hbig : ∀ j, at' < j → j < e → net (l.take at') < net (l.take j)) :
    ∀ n, at' < n → n ≤ e → begGo l n (1 - (net (l.take e) - net (l.take n))) = at' := by
  intro n
  induction n with
  | zero => intro h; omega
  | succ n ih =>
    intro h1 h2
    have hk := hg n (by omega) (by omega)
    have hs := net_take_more l n (by omega)
    rw [begGo, if_neg (by omega)]
    have e1 : 1 - (net (l.take e) - net (l.take (n + 1))) + (kOps (l.getD n default).k - 1) = 1 - (net (l.take e) - net (l.take n)) := by omega
    rw [e1]
    by_cases hn : n = at'
    · subst hn
      rw [if_pos (by omega)]
    · have := hbig n (by omega) (by omega)
      rw [if_neg (by omega)]
      exact ih (by omega) (by omega)

/-- an expression -/
def Expr (l : List Stp) : Prop := Goes l 0 ∧ net l = 1
theorem expr_ne {l : List Stp} (h : Expr l) : 0 < l.length := by
  cases l with
  | nil => simp [Expr, net] at h
  | cons s r => simp
theorem meas_expr {l : List Stp} (h : (measV l).2 = 0) : l.length ≤ 512 ∧ Expr l := by
  unfold measV at h
  split at h
  · simp at h
  · have := meas_goes l 0 0 h
    exact ⟨by omega, this.1, by omega⟩
theorem expr_meas {l : List Stp} (h : Expr l) (hl : l.length ≤ 512) : measV l = (peak l 0 0, 0) := by
  unfold measV
  rw [if_neg (by omega), goes_meas l 0 0 h.1, if_pos (by rw [h.2]; rfl)]
theorem expr_two {a b : List Stp} {k : Int} (ha : Expr a) (hb : Expr b) (hk : k = 3 ∨ k = 4) : Expr (a ++ b ++ [kStp k]) := by
  have e : kOps k = 2 := by rcases hk with rfl | rfl <;> decide
  refine ⟨?_, ?_⟩
  · rw [goes_append, goes_append, net_append, ha.2, hb.2]
    refine ⟨⟨ha.1, goes_more b _ _ hb.1 (by decide)⟩, ⟨?_, by simp [kStp, e], trivial⟩⟩
    exact ⟨by simp [kStp, e], .inr ⟨rfl, rfl, rfl, rfl⟩⟩
  · rw [net_append, net_append, ha.2, hb.2]
    simp [net, kStp, e]
theorem expr_one {a : List Stp} {k : Int} (ha : Expr a) (hk : k = 5 ∨ k = 6 ∨ k = 7) : Expr (a ++ [kStp k]) := by
  have e : kOps k = 1 := by rcases hk with rfl | rfl | rfl <;> decide
  refine ⟨?_, ?_⟩
  · rw [goes_append, ha.2]
    refine ⟨ha.1, ⟨?_, by simp [kStp, e], trivial⟩⟩
    exact ⟨by simp [kStp, e], .inr ⟨rfl, rfl, rfl, rfl⟩⟩
  · rw [net_append, ha.2]
    simp [net, kStp, e]
theorem peak_ge1 {a : List Stp} (h : Expr a) : 1 ≤ peak a 0 0 := by
  have h1 := expr_ne h
  cases a with
  | nil => simp at h1
  | cons s r =>
    obtain ⟨⟨⟨g1, _⟩, g2, _⟩, _⟩ := h
    have := peak_ge r (0 + (1 - kOps s.k)) (max 0 (0 + (1 - kOps s.k)))
    simp only [peak]
    omega
theorem peak_two {a b : List Stp} {k : Int} (ha : Expr a) (hb : Expr b) (hk : k = 3 ∨ k = 4) : peak (a ++ b ++ [kStp k]) 0 0 = max (peak a 0 0) (peak b 0 0 + 1) := by
  have e : kOps k = 2 := by rcases hk with rfl | rfl <;> decide
  have h1 := peak_ge1 ha
  have h2 := peak_ge1 hb
  have h3 : peak b (0 + 1) (max (0 + 1) (peak a 0 0)) = max (peak b 0 0 + 1) (peak a 0 0) := by rw [peak_max, peak_shift]
  rw [peak_append, peak_append, net_append, ha.2, hb.2]
  have h4 : max (0 + 1) (peak a 0 0) = peak a 0 0 := by omega
  rw [h4] at h3
  rw [h3]
  simp only [peak, kStp, e]
  omega
theorem peak_one {a : List Stp} {k : Int} (ha : Expr a) (hk : k = 5 ∨ k = 6 ∨ k = 7) : peak (a ++ [kStp k]) 0 0 = peak a 0 0 := by
  have e : kOps k = 1 := by rcases hk with rfl | rfl | rfl <;> decide
  have h1 := peak_ge1 ha
  rw [peak_append, ha.2]
  simp only [peak, kStp, e]
  omega
theorem getD_good {l : List Stp} {p : Int} (h : Goes l p) (j : Nat) (hj : j < l.length) : 0 ≤ kOps (l.getD j default).k := by
  rw [List.getD_eq_getElem?_getD, List.getElem?_eq_getElem hj]
  exact (goes_good l p h _ (List.getElem_mem hj)).1
/-- the last part of an expression begins with its first step -/
theorem beg_whole {l : List Stp} (h : Expr l) : begV l ((l.length : Int) - 1) = 0 := by
  have h1 := expr_ne h
  unfold begV
  rw [if_neg (by omega), show ((l.length : Int) - 1).toNat + 1 = l.length by omega]
  have := beg_at l 0 l.length (Nat.le_refl _) (fun j _ hj => getD_good h.1 j hj) (by simp [net, h.2]) (fun j h1 h2 => by
    have := goes_part l 0 h.1 (Int.le_refl _) j h1 (by omega)
    simp only [List.take_zero, net]
    omega) l.length h1 (Nat.le_refl _)
  simpa using this
/-- the part in the midst of others begins where it was put -/
theorem beg_part {x l z : List Stp} (h : Expr l) : begV (x ++ l ++ z) ((x.length : Int) + l.length - 1) = x.length := by
  have h1 := expr_ne h
  unfold begV
  rw [if_neg (by simp; omega), show ((x.length : Int) + l.length - 1).toNat + 1 = x.length + l.length by omega]
  have ht : ∀ j, j ≤ l.length → net ((x ++ l ++ z).take (x.length + j)) = net x + net (l.take j) := fun j hj => by
    rw [List.append_assoc, List.take_length_add_append, net_append]
    congr 2
    exact List.take_append_of_le_length hj
  have hx : net ((x ++ l ++ z).take x.length) = net x := by simp
  have he := ht l.length (Nat.le_refl _)
  rw [List.take_length, h.2] at he
  have := beg_at (x ++ l ++ z) x.length (x.length + l.length) (by simp) (fun j h1 h2 => by
      have := getD_good h.1 (j - x.length) (by omega)
      rw [List.getD_eq_getElem?_getD] at this ⊢
      rwa [List.append_assoc, List.getElem?_append_right h1, List.getElem?_append_left (by omega)]) (by omega) (fun j h1 h2 => by
      have h3 := ht (j - x.length) (by omega)
      rw [show x.length + (j - x.length) = j by omega] at h3
      have := goes_part l 0 h.1 (Int.le_refl _) (j - x.length) (by omega) (by omega)
      omega) (x.length + l.length) (by omega) (Nat.le_refl _)
  simp at this ⊢
  exact this
/-- a first step of no kind is wrong -/
theorem meas_bad {s : Stp} {r : List Stp} (h : kOps s.k < 0) (hl : r.length < 512) : (measV (s :: r)).2 = 1 := by
  unfold measV
  rw [if_neg (by simp; omega), measGo, if_neg (by unfold Stp.good; omega)]
end Go.Proofs.YtnjjbaodfjmiaaaGreat

/- Sets of bytes as four numbers of 64 bits: the mathematics, without the program. -/
namespace Go.Proofs.YtnjjbaodfjmiaaaGreat

def low (f : Nat → Bool) : Nat → Nat
  | 0 => 0
  | n + 1 => low f n + if f n then 2 ^ n else 0
theorem low_lt (f : Nat → Bool) : ∀ n, low f n < 2 ^ n
  | 0 => by simp [low]
  | n + 1 => by
    have := low_lt f n
    simp only [low, Nat.pow_succ]
    split <;> omega
theorem low_bit (f : Nat → Bool) : ∀ n j, (low f n).testBit j = (decide (j < n) && f j)
  | 0, j => by simp [low]
  | n + 1, j => by
    have h := low_lt f n
    have ih := low_bit f n j
    have e : low f (n + 1) = 2 ^ n * (if f n then 1 else 0) + low f n := by
      simp only [low]
      split <;> simp [Nat.add_comm]
    rw [e, Nat.testBit_two_pow_mul_add _ h]
    by_cases hj : j < n
    · rw [if_pos hj, ih]
      simp [hj]
      intro; omega
    · rw [if_neg hj]
      by_cases he : j = n
      · subst he
        cases f j <;> simp
      · have h1 : ¬ j < n + 1 := by omega
        have h2 : j - n ≠ 0 := by omega
        simp only [h1, decide_false, Bool.false_and]
        split
        · exact Nat.testBit_lt_two_pow (Nat.lt_of_lt_of_le (show 1 < 2 ^ 1 by decide) (Nat.pow_le_pow_right (by decide) (by omega)))
        · simp

def word (f : Nat → Bool) (i : Nat) : Nat := low (fun j => f (64 * i + j)) 64
theorem word_lt (f : Nat → Bool) (i : Nat) : word f i < 18446744073709551616 := low_lt _ 64
theorem word_bit (f : Nat → Bool) (i j : Nat) : (word f i).testBit j = (decide (j < 64) && f (64 * i + j)) := low_bit _ 64 j
theorem word_eq {f : Nat → Bool} {i x : Nat} (hx : x < 18446744073709551616) (h : ∀ j, j < 64 → x.testBit j = f (64 * i + j)) : x = word f i := by
  apply Nat.eq_of_testBit_eq
  intro j
  rw [word_bit]
  by_cases hj : j < 64
  · simp [hj, h j hj]
  · simp only [hj, decide_false, Bool.false_and]
    exact Nat.testBit_lt_two_pow (Nat.lt_of_lt_of_le hx (Nat.pow_le_pow_right (n := 2) (i := 64) (by decide) (by omega)))
theorem word_congr {f g : Nat → Bool} (i : Nat) (h : ∀ j, j < 64 → f (64 * i + j) = g (64 * i + j)) : word f i = word g i :=
  word_eq (word_lt f i) fun j hj => by rw [word_bit]; simp [hj, h j hj]
theorem word_ext {f g : Nat → Bool} (h : ∀ n, n < 256 → f n = g n) (i : Nat) (hi : i < 4) : word f i = word g i :=
  word_congr i fun j hj => h _ (by omega)
/-- what four numbers of 64 bits have -/
def mem (a b c d : Nat) (n : Nat) : Bool := ([a, b, c, d].getD (n / 64) 0).testBit (n % 64)
theorem word_mem {a b c d : Nat} (ha : a < 18446744073709551616) (hb : b < 18446744073709551616) (hc : c < 18446744073709551616) (hd : d < 18446744073709551616) :
    word (mem a b c d) 0 = a ∧ word (mem a b c d) 1 = b ∧ word (mem a b c d) 2 = c ∧ word (mem a b c d) 3 = d := by
  have key : ∀ i j, j < 64 → (64 * i + j) / 64 = i ∧ (64 * i + j) % 64 = j := fun i j hj => by omega
  refine ⟨(word_eq ha fun j hj => ?_).symm, (word_eq hb fun j hj => ?_).symm, (word_eq hc fun j hj => ?_).symm, (word_eq hd fun j hj => ?_).symm⟩
  · unfold mem; rw [(key 0 j hj).1, (key 0 j hj).2]; rfl
  · unfold mem; rw [(key 1 j hj).1, (key 1 j hj).2]; rfl
  · unfold mem; rw [(key 2 j hj).1, (key 2 j hj).2]; rfl
  · unfold mem; rw [(key 3 j hj).1, (key 3 j hj).2]; rfl

/-- what operations on sets say of the words -/
def fOr (f g : Nat → Bool) (n : Nat) : Bool := f n || g n
def fOne (m : Nat) (n : Nat) : Bool := decide (n = m)
def fNone (_ : Nat) : Bool := false
theorem word_none (i : Nat) : word fNone i = 0 := (word_eq (by decide) fun j _ => by simp [fNone]).symm
theorem word_or (f g : Nat → Bool) (i : Nat) : bits .or .u64 (word f i) (word g i) = word (fOr f g) i := by
  rw [u64_or_nat _ _ (word_lt f i) (word_lt g i)]
  congr 1
  refine word_eq (Nat.or_lt_two_pow (n := 64) (word_lt f i) (word_lt g i)) fun j hj => ?_
  rw [Nat.testBit_or, word_bit, word_bit]
  simp [hj, fOr]
theorem pow_bit (n : Int) (h0 : 0 ≤ n) (i : Nat) (hi : n.toNat / 64 = i) : IntKind.u64.wrap (2 ^ (n % 64).toNat) = word (fOne n.toNat) i := by
  obtain ⟨k, rfl⟩ := Int.eq_ofNat_of_zero_le h0
  simp only [Int.toNat_natCast] at hi
  have e : ((k : Int) % 64).toNat = k % 64 := by omega
  have hj : k % 64 < 64 := Nat.mod_lt _ (by decide)
  have hlt : 2 ^ (k % 64) < 18446744073709551616 := Nat.pow_lt_pow_right (a := 2) (n := 64) (by decide) hj
  have hw : word (fOne (k : Int).toNat) i = 2 ^ (k % 64) := by
    refine (word_eq hlt fun j hj => ?_).symm
    rw [Nat.testBit_two_pow]
    simp only [fOne, Int.toNat_natCast]
    congr 1
    simp only [eq_iff_iff]
    omega
  rw [e, hw, IntKind.wrap_u64]
  have h2 : ((2 : Int) ^ (k % 64)) = ((2 ^ (k % 64) : Nat) : Int) := by simp
  rw [h2]
  omega
theorem word_has (f : Nat → Bool) (i j : Nat) (hj : j < 64) : (word f i : Int) / 2 ^ j % 2 = if f (64 * i + j) then 1 else 0 := by
  have h : (word f i).testBit j = f (64 * i + j) := by rw [word_bit]; simp [hj]
  rw [Nat.testBit_eq_decide_div_mod_eq] at h
  have e : (word f i : Int) / 2 ^ j % 2 = ((word f i / 2 ^ j % 2 : Nat) : Int) := by
    simp
  rw [e, ← h]
  have : word f i / 2 ^ j % 2 < 2 := Nat.mod_lt _ (by decide)
  generalize word f i / 2 ^ j % 2 = x at *
  split
  · simp_all
  · simp at *; omega
theorem at4 (g : Nat → Nat) (i : Nat) (h : i < 4) : [Value.int .u64 (g 0), Value.int .u64 (g 1), Value.int .u64 (g 2), Value.int .u64 (g 3)][i]? = some (.int .u64 (g i)) := by
  match i, h with
  | 0, _ | 1, _ | 2, _ | 3, _ => rfl
end Go.Proofs.YtnjjbaodfjmiaaaGreat

/- Two arrays of four numbers, or of two, held against one another. -/
namespace Go.Proofs.YtnjjbaodfjmiaaaGreat
open Go.RowKit

theorem items_step {P : Program} {w : World} {d : Nat} {e : TypeId} {k : IntKind} (he : P.plainKey e = true) (hu : P.underlying e = some (.int k)) {xs ys : Array Value} {j : Nat} {x y : Int} {is : List Nat} {r : Bool}
    (hx : xs[j * 1]? = some (.int k x)) (hy : ys[j * 1]? = some (.int k y)) (h : (Op.eqItems (d + 1) e 1 xs ys is).run P w = .ok r w) : (Op.eqItems (d + 1) e 1 xs ys (j :: is)).run P w = .ok (x == y && r) w := by
  simp only [Op.eqItems, Sem.run_bind]
  rw [run_part_plain (P := P) (w := w) he hx]
  simp only [Result.andThen_ok]
  rw [run_part_plain (P := P) (w := w) he hy]
  simp only [Result.andThen_ok]
  rw [run_equalIn_int w d e k k x y hu]
  simp only [Result.andThen_ok]
  cases (x == y)
  · simp
  · simpa using h
theorem items_end {P : Program} {w : World} {d : Nat} {e : TypeId} {xs ys : Array Value} : (Op.eqItems d e 1 xs ys []).run P w = .ok true w := by
  simp [Op.eqItems]

theorem eq_four (w : World) (a0 a1 a2 a3 b0 b1 b2 b3 : Int) :
    (Op.equalIn 10000 103 (.agg #[.int .u64 a0, .int .u64 a1, .int .u64 a2, .int .u64 a3]) (.agg #[.int .u64 b0, .int .u64 b1, .int .u64 b2, .int .u64 b3])).run Tryz.prog w = .ok (a0 == b0 && (a1 == b1 && (a2 == b2 && (a3 == b3 && true)))) w := by
  obtain ⟨i, hi⟩ : ∃ i, Tryz.prog.info? 101 = some i := Option.isSome_iff_exists.1 (by kernel_rfl)
  have hc : Tryz.prog.cellsOf 101 = 1 := by kernel_rfl
  have he : Tryz.prog.plainKey 101 = true := by kernel_rfl
  rw [run_equalIn_array (P := Tryz.prog) (w := w) 9999 _ _ Tryz.underlying103 hi, hc, show List.range 4 = [0, 1, 2, 3] from rfl]
  exact items_step (d := 9998) he Tryz.underlying101 rfl rfl (items_step he Tryz.underlying101 rfl rfl (items_step he Tryz.underlying101 rfl rfl (items_step he Tryz.underlying101 rfl rfl items_end)))
end Go.Proofs.YtnjjbaodfjmiaaaGreat
