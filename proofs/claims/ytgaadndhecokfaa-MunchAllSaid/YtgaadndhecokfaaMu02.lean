/- SetOps, SetLoops, SetTwo, Typed, put together. -/
import Derived.Test.YtgaadndhecokfaaMu01
import Derived.Handy
import Derived.Deep.RegionHeld3
import Derived.Orders
/- Contracts of the set functions without a search: Has, One, with, And, Minus, Not. -/
namespace Go.Proofs.Ytgaadndhecokfaa
open Go.RowKit

theorem has_res (f : Nat → Bool) (n : Int) (h0 : 0 ≤ n) : ((word f (n / 64).toNat : Int) / 2 ^ (n % 64).toNat % 2 == 1) = f n.toNat := by
  obtain ⟨k, rfl⟩ := Int.eq_ofNat_of_zero_le h0
  have e1 : ((k : Int) / 64).toNat = k / 64 := by omega
  have e2 : ((k : Int) % 64).toNat = k % 64 := by omega
  rw [e1, e2, word_has f _ _ (Nat.mod_lt _ (by decide)), Nat.div_add_mod, Int.toNat_natCast]
  cases f k <;> rfl
theorem has_res2 (f : Nat → Bool) (n : Int) (h0 : 0 ≤ n) : (((word f (n / 64).toNat : Int) / 2 ^ (n % 64).toNat).tmod 2 == 1) = f n.toNat := by
  rw [← has_res f n h0]
  have e : (word f (n / 64).toNat : Int) / 2 ^ (n % 64).toNat = ((word f (n / 64).toNat / 2 ^ (n % 64).toNat : Nat) : Int) := by simp
  rw [e, Int.tmod_eq_emod_of_nonneg (Int.natCast_nonneg _)]

theorem rhas_calls (f : Nat → Bool) (n : Int) (w : World) (h0 : 0 ≤ n) (h1 : n < 256) :
    Calls Try.prog 71 #[(.agg #[.int .u64 (word (f) 0), .int .u64 (word (f) 1), .int .u64 (word (f) 2), .int .u64 (word (f) 3)]), .int .u8 n] w fun e w' => e = .returned (.bool (f n.toNat)) ∧ Below w.heap.size w w' := by
  have hx := at4 (word f) (n / 64).toNat (by omega)
  go_enter Try.func71, Try.ntmps71
  go_wp2
  go_ret
  exact ⟨ret_b (has_res2 f n h0), (Below.refl _ _).alloc (Nat.le_refl _) _⟩

/-- a set as it is returned, out of its four words -/
theorem ret_set {a b c d : Int} {f : Nat → Bool} (ha : a = word f 0) (hb : b = word f 1) (hc : c = word f 2) (hd : d = word f 3) :
    Ending.returned (.agg #[.int .u64 a, .int .u64 b, .int .u64 c, .int .u64 d]) = .returned (.agg #[.int .u64 (word (f) 0), .int .u64 (word (f) 1), .int .u64 (word (f) 2), .int .u64 (word (f) 3)]) := by
  rw [ha, hb, hc, hd]

theorem or_other (f : Nat → Bool) (n i : Nat) (h : n / 64 ≠ i) : word f i = word (fOr f (fOne n)) i :=
  word_congr i fun j hj => by
    simp only [fOr, fOne]
    have : decide (64 * i + j = n) = false := by simp; omega
    rw [this, Bool.or_false]

theorem with_calls (f : Nat → Bool) (n : Int) (w : World) (h0 : 0 ≤ n) (h1 : n < 256) :
    Calls Try.prog 85 #[(.agg #[.int .u64 (word (f) 0), .int .u64 (word (f) 1), .int .u64 (word (f) 2), .int .u64 (word (f) 3)]), .int .i64 n] w fun e w' => e = .returned (.agg #[.int .u64 (word (fOr f (fOne n.toNat)) 0), .int .u64 (word (fOr f (fOne n.toNat)) 1), .int .u64 (word (fOr f (fOne n.toNat)) 2), .int .u64 (word (fOr f (fOne n.toNat)) 3)]) ∧ Below w.heap.size w w' := by
  have HB := hidden (pow_bit n h0)
  have HO := hidden (or_other f n.toNat)
  have HW := hidden (word_or f (fOne n.toNat))
  have hc : (n / 64).toNat = 0 ∨ (n / 64).toNat = 1 ∨ (n / 64).toNat = 2 ∨ (n / 64).toNat = 3 := by omega
  rcases hc with hq | hq | hq | hq
  all_goals
    go_enter Try.func85, Try.ntmps85
    go_wp2
    go_returns
    refine ⟨ret_set ?_ ?_ ?_ ?_, by go_grown⟩
  all_goals first | (rw [← HO.out _ (by omega)]; done) | exact congrArg _ (HO.out _ (by omega)) | (rw [HB.out _ (show n.toNat / 64 = 0 by omega)]; exact HW.out _) | (rw [HB.out _ (show n.toNat / 64 = 1 by omega)]; exact HW.out _) | (rw [HB.out _ (show n.toNat / 64 = 2 by omega)]; exact HW.out _) | (rw [HB.out _ (show n.toNat / 64 = 3 by omega)]; exact HW.out _)

end Go.Proofs.Ytgaadndhecokfaa

/- Contracts of the set functions that go over all bytes, or over a list of sets. -/
namespace Go.Proofs.Ytgaadndhecokfaa
open Go.RowKit

/-- block B is an array of four words, with f in it -/
def SetAt (w : World) (B : Nat) (f : Nat → Bool) : Prop := w.heap[B]? = some (.cells #[.int .u64 (word (f) 0), .int .u64 (word (f) 1), .int .u64 (word (f) 2), .int .u64 (word (f) 3)] 90 (0, 0))
theorem SetAt.facts {w : World} {B : Nat} {f : Nat → Bool} (h : SetAt w B f) :
    w.cell? ⟨B, 0, none⟩ = some (.int .u64 (word f 0)) ∧ w.cell? ⟨B, 1, none⟩ = some (.int .u64 (word f 1)) ∧ w.cell? ⟨B, 2, none⟩ = some (.int .u64 (word f 2)) ∧ w.cell? ⟨B, 3, none⟩ = some (.int .u64 (word f 3)) ∧
    w.frozen? ⟨B, 0, none⟩ = false ∧ w.frozen? ⟨B, 1, none⟩ = false ∧ w.frozen? ⟨B, 2, none⟩ = false ∧ w.frozen? ⟨B, 3, none⟩ = false :=
  ⟨cell_of_row w B 0 _ _ _ h, cell_of_row w B 1 _ _ _ h, cell_of_row w B 2 _ _ _ h, cell_of_row w B 3 _ _ _ h,
    frozen_of_row w B 0 _ _ h, frozen_of_row w B 1 _ _ h, frozen_of_row w B 2 _ _ h, frozen_of_row w B 3 _ _ h⟩
theorem SetAt.lt {w : World} {B : Nat} {f : Nat → Bool} (h : SetAt w B f) : B < w.heap.size := by
  rcases Nat.lt_or_ge B w.heap.size with hlt | hge
  · exact hlt
  · unfold SetAt at h
    rw [Array.getElem?_eq_none hge] at h
    cases h
theorem SetAt.below {w w' : World} {B : Nat} {f : Nat → Bool} (h : SetAt w B f) (hb : Below w.heap.size w w') : SetAt w' B f :=
  (hb.block B h.lt).trans h
theorem SetAt.new (w : World) (f : Nat → Bool) : SetAt (w.alloc (.cells #[.int .u64 (word (f) 0), .int .u64 (word (f) 1), .int .u64 (word (f) 2), .int .u64 (word (f) 3)] 90)) w.heap.size f := heap_alloc_new w _
theorem SetAt.stored {w : World} {B : Nat} {f g : Nat → Bool} (h : SetAt w B f) :
    SetAt ((((w.setCell ⟨B, 0, none⟩ (.int .u64 (word g 0))).setCell ⟨B, 1, none⟩ (.int .u64 (word g 1))).setCell ⟨B, 2, none⟩ (.int .u64 (word g 2))).setCell ⟨B, 3, none⟩ (.int .u64 (word g 3))) B g :=
  heap_setCell_same _ B 3 _ _ _ (heap_setCell_same _ B 2 _ _ _ (heap_setCell_same _ B 1 _ _ _ (heap_setCell_same _ B 0 _ _ _ h)))
theorem SetAt.congr {w : World} {B : Nat} {f g : Nat → Bool} (h : SetAt w B f) (e : ∀ n, n < 256 → f n = g n) : SetAt w B g := by
  unfold SetAt at h ⊢
  rw [h, word_ext e 0 (by decide), word_ext e 1 (by decide), word_ext e 2 (by decide), word_ext e 3 (by decide)]

theorem below_cells {B : Nat} {a w : World} (h : Below B a w) (b : Nat) (hb : B ≤ b) (v0 v1 v2 v3 : Value) :
    Below B a ((((w.setCell ⟨b, 0, none⟩ v0).setCell ⟨b, 1, none⟩ v1).setCell ⟨b, 2, none⟩ v2).setCell ⟨b, 3, none⟩ v3) :=
  (((h.setCell hb _).setCell hb _).setCell hb _).setCell hb _
theorem with_nat (f : Nat → Bool) (k : Nat) (w : World) (h : k < 256) :
    Calls Try.prog 85 #[(.agg #[.int .u64 (word (f) 0), .int .u64 (word (f) 1), .int .u64 (word (f) 2), .int .u64 (word (f) 3)]), .int .i64 k] w fun e w' => e = .returned (.agg #[.int .u64 (word (fOr f (fOne k)) 0), .int .u64 (word (fOr f (fOne k)) 1), .int .u64 (word (fOr f (fOne k)) 2), .int .u64 (word (fOr f (fOne k)) 3)]) ∧ Below w.heap.size w w' := by
  have := with_calls f k w (by omega) (by omega)
  rwa [Int.toNat_natCast] at this
theorem zeros (f : Nat → Bool) (hf : ∀ i, word f i = 0) : (#[.int .u64 0, .int .u64 0, .int .u64 0, .int .u64 0] : Array Value) = #[.int .u64 (word (f) 0), .int .u64 (word (f) 1), .int .u64 (word (f) 2), .int .u64 (word (f) 3)] := by
  simp [hf]
theorem zeros_none : (#[.int .u64 0, .int .u64 0, .int .u64 0, .int .u64 0] : Array Value) = #[.int .u64 (word (fNone) 0), .int .u64 (word (fNone) 1), .int .u64 (word (fNone) 2), .int .u64 (word (fNone) 3)] := zeros _ word_none
theorem ret_setAt {fn : Func} {R : Ending → World → Prop} {a : Act} {w : World} {B p : Nat} {f g : Nat → Bool} (h : fn.results = #[.cell p 90]) (hp : a.tmps.getD p undef = .pointer (some ⟨B, 0, none⟩))
    (hd : a.defers = []) (hS : SetAt w B f) (e : ∀ n, n < 256 → f n = g n) (hR : R (.returned (.agg #[.int .u64 (word (g) 0), .int .u64 (word (g) 1), .int .u64 (word (g) 2), .int .u64 (word (g) 3)])) w) : bodyPost Try.prog fn R .ret a w :=
  bodyPost_ret (results_cell_row h _ w B 90 _ (0, 0) _ hp (hS.congr e) Try.underlying90 rfl (by kernel_rfl)) hd hR

end Go.Proofs.Ytgaadndhecokfaa

/- Contracts of the reference's functions on two sets, on a list of sets, and of its Not. -/
namespace Go.Proofs.Ytgaadndhecokfaa
open Go.RowKit

theorem rone_calls (k : Nat) (w : World) (h : k < 256) :
    Calls Try.prog 79 #[.int .u8 k] w fun e w' => e = .returned (.agg #[.int .u64 (word (fOne k) 0), .int .u64 (word (fOne k) 1), .int .u64 (word (fOne k) 2), .int .u64 (word (fOne k) 3)]) ∧ Below w.heap.size w w' := by
  have hw := fun w => with_nat fNone k w h
  simp only [word_none] at hw
  have HW := hidden hw
  clear hw
  go_enter Try.func79, Try.ntmps79
  go_wp2_with fail
  refine (HW.out _).mono ?_
  rintro e w' ⟨rfl, hb1⟩
  have hS := (SetAt.new w fNone).below (by
    rw [zeros_none] at hb1
    exact hb1)
  obtain ⟨c0, c1, c2, c3, f0, f1, f2, f3⟩ := hS.facts
  have HS := hidden hS
  have HB := hidden (below_then ((Below.refl w.heap.size w).alloc (Nat.le_refl _) _) (by simp) hb1)
  clear hS hb1
  go_wp2
  exact ret_setAt Try.results79 rfl rfl HS.out.stored (fun n _ => by simp [fOr, fNone]) ⟨rfl, below_cells HB.out _ (by omega) _ _ _ _⟩

theorem rhas_nat (f : Nat → Bool) (k : Nat) (w : World) (h1 : k < 256) :
    Calls Try.prog 71 #[(.agg #[.int .u64 (word (f) 0), .int .u64 (word (f) 1), .int .u64 (word (f) 2), .int .u64 (word (f) 3)]), .int .u8 k] w fun e w' => e = .returned (.bool (f k)) ∧ Below w.heap.size w w' := by
  have := rhas_calls f k w (by omega) (by omega)
  rwa [Int.toNat_natCast] at this

theorem SetAt.alloc {w : World} {B : Nat} {f : Nat → Bool} (h : SetAt w B f) (o : Obj) : SetAt (w.alloc o) B f := (heap_alloc_old w o h.lt).trans h
theorem SetAt.newAt (w : World) (f : Nat → Bool) (B : Nat) (hB : w.heap.size = B) : SetAt (w.alloc (.cells #[.int .u64 (word (f) 0), .int .u64 (word (f) 1), .int .u64 (word (f) 2), .int .u64 (word (f) 3)] 90)) B f := by
  subst hB
  exact SetAt.new w f
end Go.Proofs.Ytgaadndhecokfaa

/- A region that draws its order, met operation by operation: what each operation leaves is said once, of whatever world and frame, and the orders need not be gone through. -/
namespace Go.Proofs.Ytgaadndhecokfaa
open Go.RowKit

section
variable {P : Program} {ops : Array Oper} {Q : Exit → Act → World → Prop} {T : Nat → Value → World → Prop} {W : World → Prop} {a0 : Act}

/-- what is known of a frame that may stand in the midst of the region: the slots that the region does not write are as they were -/
structure Still (ops : Array Oper) (a0 a : Act) : Prop where
  size : a.tmps.size = a0.tmps.size
  defers : a.defers = a0.defers
  slot : ∀ d, (ops.all fun o => o.dst != some d) = true → a.tmps.getD d undef = a0.tmps.getD d undef
/-- the operations that o waits for have left what they leave -/
def Ahead (ops : Array Oper) (T : Nat → Value → World → Prop) (o : Oper) (a : Act) (w : World) : Prop :=
  ∀ e ∈ o.after, Region.binds .any e = true → ∀ d, (ops[e.on]?).bind (·.dst) = some d → T e.on (a.tmps.getD d undef) w
/-- what an operation leaves -/
def Leaves (T : Nat → Value → World → Prop) (W : World → Prop) (j : Nat) (o : Oper) (a : Act) (w : World) (a' : Act) (w' : World) : Prop :=
  ∃ v, a' = a.put o.dst v ∧ (o.dst ≠ none → T j v w') ∧ W w' ∧ Below w.heap.size w w'

structure Mid (ops : Array Oper) (T : Nat → Value → World → Prop) (W : World → Prop) (a0 : Act) (listed : Array Bool) (a : Act) (w : World) : Prop where
  still : Still ops a0 a
  done : ∀ j d, listed.getD j true = true → (ops[j]?).bind (·.dst) = some d → T j (a.tmps.getD d undef) w
  world : W w

/-- the edges lead to what stands ahead, no two operations write one slot, and all slots are there -/
def wellOrdered (ops : Array Oper) (n : Nat) : Bool :=
  (List.range ops.size).all fun j => match ops[j]? with
    | none => true
    | some o => (o.after.all fun e => decide (e.on < j)) && (match o.dst with
      | none => true
      | some d => decide (d < n) && (List.range ops.size).all fun i => i == j || (ops[i]?).bind (·.dst) != some d)

theorem getD_set (L : Array Bool) (i j : Nat) : (L.setIfInBounds i true).getD j true = if i = j then true else L.getD j true := by
  simp only [Array.getD_eq_getD_getElem?, Array.getElem?_setIfInBounds]
  split
  · subst_vars
    split <;> simp
  · rfl
def missing (ops : Array Oper) (listed : Array Bool) : Nat := (List.range ops.size).countP fun i => !listed.getD i true
theorem missing_set {listed : Array Bool} {i : Nat} (hi : i < ops.size) (h : listed.getD i true = false) : missing ops (listed.setIfInBounds i true) + 1 ≤ missing ops listed := by
  unfold missing
  have key : ∀ n, i < n → (List.range n).countP (fun k => !(listed.setIfInBounds i true).getD k true) + 1 ≤ (List.range n).countP (fun k => !listed.getD k true) := by
    have le : ∀ n, (List.range n).countP (fun k => !(listed.setIfInBounds i true).getD k true) ≤ (List.range n).countP (fun k => !listed.getD k true) := fun n =>
      List.countP_mono_left fun k _ hk => by
        rw [getD_set] at hk
        split at hk
        · simp at hk
        · exact hk
    intro n
    induction n with
    | zero => intro h; omega
    | succ n ih =>
      intro hn
      rw [List.range_succ, List.countP_append, List.countP_append]
      by_cases e : i = n
      · subst e
        have := le i
        have e1 : List.countP (fun k => !(listed.setIfInBounds i true).getD k true) [i] = 0 := by simp
        have e2 : List.countP (fun k => !listed.getD k true) [i] = 1 := by rw [List.countP_singleton, h]; rfl
        omega
      · have := ih (by omega)
        have e1 : List.countP (fun k => !(listed.setIfInBounds i true).getD k true) [n] = List.countP (fun k => !listed.getD k true) [n] := by
          rw [List.countP_singleton, List.countP_singleton, getD_set, if_neg e]
        omega
  exact key ops.size hi
theorem ready_of_missing {listed : Array Bool} (hw : wellOrdered ops a0.tmps.size = true) : ∀ n, n ≤ ops.size → Region.ready .any ops listed = [] → ∀ j, j < n → listed.getD j true = true := by
  intro n
  induction n with
  | zero => intro _ _ j hj; omega
  | succ n ih =>
    intro hn hr j hj
    have ih := ih (by omega) hr
    by_cases e : j = n
    · subst e
      by_cases hl : listed.getD j true = true
      · exact hl
      · exfalso
        have : j ∈ Region.ready .any ops listed := by
          unfold Region.ready
          refine List.mem_filter.2 ⟨List.mem_range.2 (by omega), ?_⟩
          have ho := Array.getElem?_eq_getElem (xs := ops) (i := j) (by omega)
          have hl' : listed.getD j true = false := by simpa using hl
          rw [hl', ho]
          simp only [Bool.not_false, Bool.true_and, Option.map_some, Option.getD_some]
          rw [Array.all_eq_true_iff_forall_mem]
          intro ed hed
          have hwj := List.all_eq_true.1 hw j (List.mem_range.2 (by omega))
          rw [ho] at hwj
          simp only [Bool.and_eq_true] at hwj
          have hlt := of_decide_eq_true (Array.all_eq_true_iff_forall_mem.1 hwj.1 ed hed)
          have h1 := ih ed.on hlt
          have : listed.getD ed.on false = true := by
            rcases Nat.lt_or_ge ed.on listed.size with h2 | h2
            · simp only [Array.getD_eq_getD_getElem?, Array.getElem?_eq_getElem h2, Option.getD_some] at h1 ⊢
              exact h1
            · have h3 : listed.getD j true = true := by simp [Array.getD_eq_getD_getElem?, Array.getElem?_eq_none (show listed.size ≤ j by omega)]
              rw [h3] at hl'
              cases hl'
          rw [this]
          simp
        rw [hr] at this
        cases this
    · exact ih j (by omega)

theorem typed_sound (hw : wellOrdered ops a0.tmps.size = true)
    (hT : ∀ j v w w', T j v w → Below w.heap.size w w' → T j v w')
    (step : ∀ j o, ops[j]? = some o → ∀ a w, Still ops a0 a → Ahead ops T o a w → W w → wpOp P ops Q j (Leaves T W j o a w) a w)
    (fin : ∀ a w, Still ops a0 a → (∀ j d, (ops[j]?).bind (·.dst) = some d → T j (a.tmps.getD d undef) w) → W w → Q .normal a w) :
    ∀ (fuel : Nat) (listed : Array Bool) (a : Act) (w : World), missing ops listed ≤ fuel → listed.size = ops.size → Mid ops T W a0 listed a w → wpAny P .any ops Q fuel listed a w := by
  have finish : ∀ (listed : Array Bool) (a : Act) (w : World), listed.size = ops.size → Mid ops T W a0 listed a w → Region.ready .any ops listed = [] → Q .normal a w := fun listed a w hsz hm hr => by
    have hall := ready_of_missing hw ops.size (Nat.le_refl _) hr
    refine fin a w hm.still (fun j d hd => hm.done j d ?_ hd) hm.world
    rcases Nat.lt_or_ge j ops.size with h | h
    · exact hall j h
    · rw [Array.getElem?_eq_none h] at hd
      cases hd
  intro fuel
  induction fuel with
  | zero =>
    intro listed a w hmis hsz hm
    have hr : Region.ready .any ops listed = [] := by
      rw [Region.ready, List.filter_eq_nil_iff]
      intro i hi
      have h0 : missing ops listed = 0 := by omega
      unfold missing at h0
      rw [List.countP_eq_zero] at h0
      have := h0 i hi
      simp only [Bool.not_eq_true, Bool.not_eq_false'] at this
      rw [this]
      simp
    exact ⟨hr, finish listed a w hsz hm hr⟩
  | succ fuel ih =>
    intro listed a w hmis hsz hm
    refine ⟨finish listed a w hsz hm, fun i hi => ?_⟩
    unfold Region.ready at hi
    obtain ⟨hr1, hr2⟩ := List.mem_filter.1 hi
    have hin : i < ops.size := List.mem_range.1 hr1
    have ho := Array.getElem?_eq_getElem (xs := ops) (i := i) hin
    rw [ho] at hr2
    simp only [Option.map_some, Option.getD_some, Bool.and_eq_true, Bool.not_eq_true'] at hr2
    have hun : listed.getD i true = false := by simpa using hr2.1
    have hahead : Ahead ops T ops[i] a w := fun e he hb d hd => by
      have h1 := Array.all_eq_true_iff_forall_mem.1 hr2.2 e he
      rw [hb] at h1
      simp only [Bool.not_true, Bool.false_or] at h1
      refine hm.done e.on d ?_ hd
      rcases Nat.lt_or_ge e.on listed.size with h2 | h2
      · simp only [Array.getD_eq_getD_getElem?, Array.getElem?_eq_getElem h2, Option.getD_some] at h1 ⊢
        exact h1
      · simp [Array.getD_eq_getD_getElem?, Array.getElem?_eq_none h2]
    refine wpOp_mono (fun a' w' h => ?_) (step i ops[i] ho a w hm.still hahead hm.world)
    obtain ⟨v, rfl, hv, hW', hb⟩ := h
    have hwi := List.all_eq_true.1 hw i (List.mem_range.2 hin)
    rw [ho] at hwi
    simp only [Bool.and_eq_true] at hwi
    refine ih (listed.setIfInBounds i true) _ w' (by have := missing_set (ops := ops) hin hun; omega) (by simpa using hsz) ⟨⟨?_, ?_, ?_⟩, ?_, hW'⟩
    · rw [← hm.still.size]
      cases ops[i].dst <;> simp [Act.put]
    · rw [← hm.still.defers]
      cases ops[i].dst <;> rfl
    · intro d hd
      rw [← hm.still.slot d hd]
      have hne := Array.all_eq_true_iff_forall_mem.1 hd ops[i] (Array.getElem_mem hin)
      cases hx : ops[i].dst with
      | none => rfl
      | some x =>
        rw [hx] at hne
        have : x ≠ d := by simpa using hne
        simp [Act.put, Array.getD_eq_getD_getElem?, Array.getElem?_setIfInBounds_ne this]
    · intro j d hl hd
      rw [getD_set] at hl
      by_cases e : i = j
      · subst e
        rw [ho] at hd
        have hd : ops[i].dst = some d := hd
        have hlt : d < a.tmps.size := by
          rw [hd] at hwi
          simp only [Bool.and_eq_true] at hwi
          have := of_decide_eq_true hwi.2.1
          rw [hm.still.size]
          exact this
        have e2 : (a.put ops[i].dst v).tmps.getD d undef = v := by
          rw [hd]
          simp [Act.put, Array.getD_eq_getD_getElem?, hlt]
        rw [e2]
        exact hv (by rw [hd]; simp)
      · rw [if_neg e] at hl
        have h1 := hT j _ w w' (hm.done j d hl hd) hb
        have e2 : (a.put ops[i].dst v).tmps.getD d undef = a.tmps.getD d undef := by
          cases hx : ops[i].dst with
          | none => rfl
          | some x =>
            rw [hx] at hwi
            simp only [Bool.and_eq_true] at hwi
            have hj : j < ops.size := by
              rcases Nat.lt_or_ge j ops.size with h | h
              · exact h
              · rw [Array.getElem?_eq_none h] at hd
                cases hd
            have h2 := List.all_eq_true.1 hwi.2.2 j (List.mem_range.2 hj)
            rw [hd] at h2
            have : x ≠ d := by
              rintro rfl
              simp at h2
              exact e h2.symm
            simp [Act.put, Array.getD_eq_getD_getElem?, Array.getElem?_setIfInBounds_ne this]
        rw [e2]
        exact h1

/-- THE LAW -/
theorem wp_region_typed {id : Nat} {w : World} (T : Nat → Value → World → Prop) (W : World → Prop) (hm : P.follows .mixedOrders = true) (hw : wellOrdered ops a0.tmps.size = true)
    (hT : ∀ j v w w', T j v w → Below w.heap.size w w' → T j v w') (h0 : W w.drew)
    (step : ∀ j o, ops[j]? = some o → ∀ a w, Still ops a0 a → Ahead ops T o a w → W w → wpOp P ops Q j (Leaves T W j o a w) a w)
    (fin : ∀ a w, Still ops a0 a → (∀ j d, (ops[j]?).bind (·.dst) = some d → T j (a.tmps.getD d undef) w) → W w → Q .normal a w) :
    (Code.region id ops true).wp P Q a0 w := by
  refine wp_region_any hm (typed_sound hw hT step fin ops.size _ a0 w.drew ?_ (by simp) ⟨⟨rfl, rfl, fun _ _ => rfl⟩, fun j d hl hd => ?_, h0⟩)
  · unfold missing
    exact Nat.le_trans List.countP_le_length (by simp)
  · exfalso
    rcases Nat.lt_or_ge j ops.size with h | h
    · simp [Array.getD_eq_getD_getElem?, h] at hl
    · rw [Array.getElem?_eq_none h] at hd
      cases hd

/-! ### the same, with each operation met by itself: its operands by what is known of them -/
def evalR (ρ : Tmp → Value) : Operand → Value
  | .tmp t => ρ t
  | .const v => v
  | .global g => .pointer (some ⟨g, 0, none⟩)
  | .func f => .func (.func f) #[] #[]
theorem evalR_tmp (ρ : Tmp → Value) (t : Tmp) : evalR ρ (.tmp t) = ρ t := rfl
theorem evalR_const (ρ : Tmp → Value) (v : Value) : evalR ρ (.const v) = v := rfl
theorem evalR_global (ρ : Tmp → Value) (g : Nat) : evalR ρ (.global g) = .pointer (some ⟨g, 0, none⟩) := rfl
theorem evalR_func (ρ : Tmp → Value) (f : FuncId) : evalR ρ (.func f) = .func (.func f) #[] #[] := rfl
/-- the operation runs, and what comes of it meets Kv -/
def Does (P : Program) (o : Oper) (ρ : Tmp → Value) (w : World) (Kv : Value → World → Prop) : Prop :=
  match (execOp (evalR ρ) o).run P w with
  | .ok (.value v) w' => Kv v w'
  | .ok .skip w' => Kv undef w'
  | .ok (.enter f args) w' => Calls P f args w' fun e w'' => ∃ v, e = .returned v ∧ Kv v w''
  | _ => False
/-- which operation of the region writes a slot -/
def srcOf (ops : Array Oper) (t : Tmp) : Option Nat := (List.range ops.size).find? fun i => (ops[i]?).bind (·.dst) == some t
/-- what is known of a slot that an operation reads -/
def Fact (ops : Array Oper) (a0 : Act) (T : Nat → Value → World → Prop) (t : Tmp) (v : Value) (w : World) : Prop :=
  match srcOf ops t with
  | none => v = a0.tmps.getD t undef
  | some i => T i v w
def reads (o : Oper) : List Tmp := o.op.operands.toList.filterMap fun | .tmp t => some t | _ => none
def waits (o : Oper) (i : Nat) : Bool := o.after.any fun e => e.on == i && Region.binds .any e
/-- every slot that is read, and every guard, is of an operation that is waited for -/
def covered (ops : Array Oper) : Bool := ops.all fun o =>
  ((reads o).all fun t => match srcOf ops t with
    | none => true
    | some i => waits o i) && (match o.guard with
    | none => true
    | some (g, _) => waits o g && ((ops[g]?).bind (·.dst)).isSome)
/-- one operation, of whatever world and operands -/
def StepOk (P : Program) (ops : Array Oper) (a0 : Act) (T : Nat → Value → World → Prop) (W : World → Prop) (j : Nat) (o : Oper) : Prop :=
  ∀ ρ w, (∀ t ∈ reads o, Fact ops a0 T t (ρ t) w) → W w → Does P o ρ w fun v w' => T j v w' ∧ W w' ∧ Below w.heap.size w w'
def Steps (p : Nat → Oper → Prop) : Nat → List Oper → Prop
  | _, [] => True
  | j, o :: r => p j o ∧ Steps p (j + 1) r
theorem Steps.at {p : Nat → Oper → Prop} : ∀ {l : List Oper} {k : Nat}, Steps p k l → ∀ j o, l[j]? = some o → p (k + j) o
  | [], _, _, j, o, h => by simp at h
  | x :: r, k, hs, 0, o, h => by
    simp at h
    subst h
    exact hs.1
  | x :: r, k, hs, j + 1, o, h => by
    have := hs.2.at j o (by simpa using h)
    rwa [Nat.add_assoc, Nat.add_comm 1 j] at this

theorem does_wpOp {j : Nat} {o : Oper} {ρ : Tmp → Value} {a : Act} {w : World} (hi : ops[j]? = some o) (hsel : ∀ cs b, o.op ≠ .select cs b) (hr : ∀ t ∈ reads o, a.tmps.getD t undef = ρ t)
    (hg : Region.wanted o (yielded ops a.tmps) = true) (h : Does P o ρ w fun v w' => T j v w' ∧ W w' ∧ Below w.heap.size w w') : wpOp P ops Q j (Leaves T W j o a w) a w := by
  have he : execOp a.eval o = execOp (evalR ρ) o := execOp_congr o hsel fun x hx => by
    cases x with
    | tmp t => exact hr t (List.mem_filterMap.2 ⟨.tmp t, by simpa using hx, rfl⟩)
    | _ => rfl
  unfold wpOp
  simp only [hi, hg, if_true]
  refine .inl ?_
  unfold Oper.wp Does at *
  rw [he]
  generalize (execOp (evalR ρ) o).run P w = r at *
  cases r with
  | ok n w' =>
    cases n <;> simp only [Oper.upon] at h ⊢
    case value v => exact ⟨v, rfl, fun _ => h.1, h.2.1, h.2.2⟩
    case skip => exact ⟨undef, rfl, fun _ => h.1, h.2.1, h.2.2⟩
    case enter f args =>
      refine Calls.mono h fun e w'' he => ?_
      obtain ⟨v, rfl, h1, h2, h3⟩ := he
      exact ⟨v, rfl, fun _ => h1, h2, h3⟩
  | halt x w' => exact h.elim

/-- THE LAW, operation by operation -/
theorem wp_region_steps {id : Nat} {w : World} (T : Nat → Value → World → Prop) (W : World → Prop) (hm : P.follows .mixedOrders = true) (hw : wellOrdered ops a0.tmps.size = true) (hcov : covered ops = true) (hs : Region.noSelect ops = true)
    (hT : ∀ j v w w', T j v w → Below w.heap.size w w' → T j v w') (h0 : W w.drew)
    (gs : List Nat) (hguard : ops.all (fun o => match o.guard with
      | none => true
      | some (g, b) => b && gs.contains g) = true)
    (htrue : ∀ g ∈ gs, ∀ v w, T g v w → v = .bool true)
    (steps : Steps (StepOk P ops a0 T W) 0 ops.toList)
    (fin : ∀ a w, Still ops a0 a → (∀ j d, (ops[j]?).bind (·.dst) = some d → T j (a.tmps.getD d undef) w) → W w → Q .normal a w) :
    (Code.region id ops true).wp P Q a0 w := by
  refine wp_region_typed T W hm hw hT h0 (fun j o ho a w1 hst ha hW => ?_) fin
  have hc := Array.all_eq_true_iff_forall_mem.1 hcov o (Array.mem_of_getElem? ho)
  simp only [Bool.and_eq_true] at hc
  have wait : ∀ i d, waits o i = true → (ops[i]?).bind (·.dst) = some d → T i (a.tmps.getD d undef) w1 := fun i d hwt hd => by
    unfold waits at hwt
    obtain ⟨e, he, h1⟩ := Array.any_eq_true'.1 hwt
    simp only [Bool.and_eq_true, beq_iff_eq] at h1
    obtain ⟨rfl, h2⟩ := h1
    exact ha e he h2 d hd
  have hst1 := steps.at j o (by simpa using ho)
  rw [Nat.zero_add] at hst1
  refine does_wpOp ho (fun cs b => Region.noSelect_spec hs j o cs b ho) (ρ := fun t => a.tmps.getD t undef) (fun t _ => rfl) ?_ (hst1 _ w1 (fun t ht => ?_) hW)
  · unfold Region.wanted
    cases hgd : o.guard with
    | none => rfl
    | some gb =>
      obtain ⟨g, b⟩ := gb
      have hb := Array.all_eq_true_iff_forall_mem.1 hguard o (Array.mem_of_getElem? ho)
      rw [hgd] at hb
      have hb : (b && gs.contains g) = true := hb
      simp only [Bool.and_eq_true] at hb
      obtain ⟨rfl, hgs⟩ := hb
      have hc2 := hc.2
      rw [hgd] at hc2
      simp only [Bool.and_eq_true] at hc2
      obtain ⟨d, hd⟩ := Option.isSome_iff_exists.1 hc2.2
      have hv := htrue g (by simpa using hgs) _ _ (wait g d hc2.1 hd)
      have : yielded ops a.tmps g = some true := by
        unfold yielded
        rw [hd]
        simp only [Option.bind_some]
        rcases Nat.lt_or_ge d a.tmps.size with h | h
        · simp only [Array.getD_eq_getD_getElem?, Array.getElem?_eq_getElem h, Option.getD_some] at hv
          rw [Array.getElem?_eq_getElem h, hv]
        · simp only [Array.getD_eq_getD_getElem?, Array.getElem?_eq_none h, Option.getD_none] at hv
          cases hv
      show (yielded ops a.tmps g == some true) = true
      rw [this]
      rfl
  · have h1 := List.all_eq_true.1 hc.1 t ht
    unfold Fact
    cases hsrc : srcOf ops t with
    | none =>
      refine hst.slot t ?_
      rw [Array.all_eq_true_iff_forall_mem]
      intro o' ho'
      obtain ⟨i, hi, rfl⟩ := Array.mem_iff_getElem.1 ho'
      unfold srcOf at hsrc
      have := List.find?_eq_none.1 hsrc i (List.mem_range.2 hi)
      rw [Array.getElem?_eq_getElem hi] at this
      simpa using this
    | some i =>
      rw [hsrc] at h1
      refine wait i t h1 ?_
      unfold srcOf at hsrc
      simpa using List.find?_some hsrc

/-! ### what a slot holds, as a list over the region's operations -/
end
end Go.Proofs.Ytgaadndhecokfaa
