/- FaStA, FaStL, put together. -/
import Derived.Test.YthkboclooplpeaaGreatDoorRf15
import Derived.Laws.CopyRow
import Derived.Test.YthkboclooplpeaaGreatDoorRf18
import Derived.Deep.RegionHeld3
/- A boxed slice that is put to and taken from at its end, with its row named; frames for stores to other blocks. -/
namespace Go.Proofs.YthkboclooplpeaaGreatDoor
open Go.RowKit Go.Lib Go.Joins
/-- a struct that is stored whole in a block of its own type -/
theorem store_row {ops : Array Oper} {rest : List Oper} {o : Oper} {a : Act} {w : World} {Q : Exit → Act → World → Prop} (hgd : o.guard = none) {ty : TypeId} {x y : Operand} (ho : o.op = .store ty x y)
    {B : Nat} {cs old : Array Value} {t : TypeId} (hx : a.eval x = .pointer (some ⟨B, 0, none⟩)) (hy : a.eval y = .agg cs) (hg : w.heap[B]? = some (.cells old t (0, 0))) (n : Nat) (hi : (Tryz.prog.info? ty).map (·.size) = some n)
    (hold : old.size = n) (hcs : cs.size = n) (h1 : cs.all (·.oneCell') = true) (h : ∀ w', w'.heap[B]? = some (.cells cs t (0, 0)) → w.grownBy w' (some B) → wpList Tryz.prog ops Q rest (a.put o.dst undef) w') : wpList Tryz.prog ops Q (o :: rest) a w :=
  wpList_store_row hgd ty x y ho B cs hx hy t old hg (by rw [hcs]; exact hi) (by rw [hcs]; exact hold) h1 (h _ (setRow_heap w B _ _ t _ hg) ⟨rfl, rfl, rfl, by simp, fun k _ hk => setRow_other w B k cs (by simpa using hk)⟩)
/-- block B holds the row g, of n elements -/
def StkA (w : World) (SE E : TypeId) (k B base g cap n : Nat) (xs : List Value) : Prop := Boxed w B SE (.slice (some ⟨g, 0, none⟩) n cap) ∧ w.ownsRow base E k (.slice (some ⟨g, 0, none⟩) n cap) n xs
section
variable {w w' : World} {SE E : TypeId} {k B base g cap n : Nat} {xs : List Value}
theorem StkA.lt (h : StkA w SE E k B base g cap n xs) : B < w.heap.size := h.1.lt
theorem StkA.row (h : StkA w SE E k B base g cap n xs) : base ≤ g ∧ g < w.heap.size ∧ n ≤ cap ∧ cap ≤ maxLen := by
  rcases h.2.2 with ⟨h, _⟩ | ⟨g', cap', cur, h, hb, hg, hn, hm, _⟩
  · cases h
  · simp only [Value.slice.injEq, Option.some.injEq, Addr.mk.injEq, and_true, true_and] at h
    obtain ⟨rfl, rfl⟩ := h
    exact ⟨hb, (Array.getElem?_eq_some_iff.1 hg).1, hn, hm⟩
theorem StkA.ne (h : StkA w SE E k B base g cap n xs) (hSE : SE ≠ E) : g ≠ B := fun e => h.1.not_row hSE h.2 (by simp [Value.ownBlock, e])
/-- what keeps the two blocks keeps it -/
theorem StkA.kept (h : StkA w SE E k B base g cap n xs) (h1 : w'.heap[B]? = w.heap[B]?) (h2 : w'.heap[g]? = w.heap[g]?) : StkA w' SE E k B base g cap n xs := by
  refine ⟨h1.trans h.1, h.2.1, ?_⟩
  rcases h.2.2 with h | ⟨g', cap', cur, h, hb, hg, r⟩
  · exact .inl h
  · simp only [Value.slice.injEq, Option.some.injEq, Addr.mk.injEq, and_true, true_and] at h
    obtain ⟨rfl, rfl⟩ := h
    exact .inr ⟨g, cap, cur, rfl, hb, h2.trans hg, r⟩
theorem StkA.below (h : StkA w SE E k B base g cap n xs) (hb : Below w.heap.size w w') : StkA w' SE E k B base g cap n xs := h.kept (hb.block B h.lt) (hb.block g h.row.2.1)
theorem StkA.alloc (h : StkA w SE E k B base g cap n xs) (o : Obj) : StkA (w.alloc o) SE E k B base g cap n xs := h.below ((Below.refl _ _).alloc (Nat.le_refl _) o)
theorem StkA.drew (h : StkA w SE E k B base g cap n xs) : StkA w.drew SE E k B base g cap n xs := h
theorem StkA.grown {b : Nat} (h : StkA w SE E k B base g cap n xs) (hg : w.grownBy w' (some b)) (h1 : B ≠ b) (h2 : g ≠ b) : StkA w' SE E k B base g cap n xs :=
  h.kept (hg.block B h.lt (by simpa using h1)) (hg.block g h.row.2.1 (by simpa using h2))
theorem StkA.pop {x : List Value} (hx : xs.length = n * k) (h : StkA w SE E k B base g cap (n + 1) (xs ++ x)) (hSE : SE ≠ E) :
    StkA (w.setCell ⟨B, 0, none⟩ (.slice (some ⟨g, 0, none⟩) n cap)) SE E k B base g cap n xs := by
  have hne := h.ne hSE
  obtain ⟨h1, h2⟩ := h
  refine ⟨h1.set _, hx, .inr ?_⟩
  rcases h2.2 with ⟨h, _⟩ | ⟨g', cap', cur, h, hb, hg, hn, hm, hs, ht⟩
  · cases h
  · simp only [Value.slice.injEq, Option.some.injEq, Addr.mk.injEq, and_true, true_and] at h
    obtain ⟨rfl, rfl⟩ := h
    refine ⟨g, cap, cur, rfl, hb, ?_, by omega, hm, hs, ?_⟩
    · rw [heap_setCell_other _ _ _ _ (show g ≠ B from hne)]
      exact hg
    · have e : cur.toList.take (n * k) = (cur.toList.take ((n + 1) * k)).take (n * k) := by
        rw [List.take_take]
        congr 1
        rw [Nat.add_mul]
        omega
      rw [e, ht, ← hx, List.take_left]
theorem StkV.pushA {ys : List Value} {g' cap' m : Nat} {w1 : World} (h1 : Boxed w B SE (.slice (some ⟨g, 0, none⟩) n cap)) (h2 : w.ownsRow base E k (.slice (some ⟨g, 0, none⟩) n cap) n xs) (hSE : SE ≠ E)
    (hg : w.grownBy w1 (Value.slice (some ⟨g, 0, none⟩) n cap).ownBlock) (hown : w1.ownsRow base E k (.slice (some ⟨g', 0, none⟩) m cap') m ys) : StkA (w1.setCell ⟨B, 0, none⟩ (.slice (some ⟨g', 0, none⟩) m cap')) SE E k B base g' cap' m ys := by
  have hne := h1.not_row hSE h2
  have h3 := h1.kept hg hne
  have hne2 := h3.not_row hSE hown
  exact ⟨h3.set _, hown.kept (gb_set B 0 _) (.inr fun e => hne2 e.symm)⟩
theorem StkA.toV (h : StkA w SE E k B base g cap n xs) : StkV w SE E k B base n xs := ⟨g, cap, h.1, h.2⟩
theorem gb_sets {b : Nat} (h : w.grownBy w' (some b)) (q : Nat) (v : Value) : w.grownBy (w'.setCell ⟨b, q, none⟩ v) (some b) := gb_trans h (gb_set b q v)
/-- a call that turns one block of its own, and others above: seen from before -/
theorem gb_over {w0 : World} {B b : Nat} (h : w0.grownBy w (some B)) (hb : w0.heap.size ≤ b) (h2 : w.grownBy w' (some b)) : w0.grownBy w' (some B) :=
  ⟨h2.os.trans h.os, h2.tape.trans h.tape, h2.output.trans h.output, Nat.le_trans h.size h2.size, fun k hk hr => (h2.block k (Nat.lt_of_lt_of_le hk h.size) (by simp only [ne_eq, Option.some.injEq]; omega)).trans (h.block k hk hr)⟩
end
end Go.Proofs.YthkboclooplpeaaGreatDoor

/- The stack of letters, as evaluate keeps it: ten cells each; take. -/
namespace Go.Proofs.YthkboclooplpeaaGreatDoor
open Go.RowKit Go.Lib Go.Joins
attribute [local go_sem] evalR_tmp evalR_const evalR_global evalR_func
def letC (l : Let) : List Value := [.bool l.some, .bool l.null, .int .u64 (word (l.first) 0), .int .u64 (word (l.first) 1), .int .u64 (word (l.first) 2), .int .u64 (word (l.first) 3), .int .u64 (word (l.used) 0), .int .u64 (word (l.used) 1), .int .u64 (word (l.used) 2), .int .u64 (word (l.used) 3)]
theorem letC_length (l : Let) : (letC l).length = 10 := rfl
/-- what waits: block B holds these, the last one at the end -/
def StkL (w : World) (B base g cap : Nat) (X : List Let) : Prop := StkA w 122 66 10 B base g cap X.length (X.flatMap letC)
theorem StkL.below {w w' : World} {B base g cap : Nat} {X : List Let} (h : StkL w B base g cap X) (hb : Below w.heap.size w w') : StkL w' B base g cap X := StkA.below h hb
theorem StkL.alloc {w : World} {B base g cap : Nat} {X : List Let} (h : StkL w B base g cap X) (o : Obj) : StkL (w.alloc o) B base g cap X := StkA.alloc h o
theorem StkL.drew {w : World} {B base g cap : Nat} {X : List Let} (h : StkL w B base g cap X) : StkL w.drew B base g cap X := h
set_option maxHeartbeats 2000000 in
set_option maxRecDepth 100000 in
theorem takeL_calls {w : World} {B base g cap : Nat} {X : List Let} {x : Let} (h : StkL w B base g cap (X ++ [x])) (hX : X.length ≤ 1000) :
    Calls Tryz.prog 110 #[.pointer (some ⟨B, 0, none⟩)] w fun e w' => e = .returned (letV x) ∧ StkL w' B base g cap X ∧ w.grownBy w' (some B) := by
  obtain ⟨_, hglt, hcap, _⟩ := StkA.row h
  obtain ⟨h1, h2⟩ := id h
  have hlen : (X.flatMap letC).length = X.length * 10 := cells_flat letC 10 letC_length X
  have HP := hidden (StkA.pop (x := letC x) hlen (by
    have h' := h
    unfold StkL at h'
    simp only [List.length_append, List.length_cons, List.length_nil, List.flatMap_append, List.flatMap_cons, List.flatMap_nil, List.append_nil, Nat.zero_add] at h'
    exact h') (by decide))
  simp only [List.length_append, List.length_cons, List.length_nil, List.flatMap_append, List.flatMap_cons, List.flatMap_nil, List.append_nil, Nat.zero_add] at h1 h2 hcap
  have hcx : ∀ j v, j < 10 → (letC x)[j]? = some v → w.cell? ⟨g, X.length * 10 + j, none⟩ = some v := fun j v hj hv => by
    rw [World.ownsRow.cellAt h2 (X.length * 10 + j) (by omega), List.getElem?_append_right (by omega), hlen, Nat.add_sub_cancel_left]
    exact hv
  have k0 := hcx 0 (.bool x.some) (by decide) rfl
  have k1 := hcx 1 (.bool x.null) (by decide) rfl
  have k2 := hcx 2 (.int .u64 (word x.first 0)) (by decide) rfl
  have k3 := hcx 3 (.int .u64 (word x.first 1)) (by decide) rfl
  have k4 := hcx 4 (.int .u64 (word x.first 2)) (by decide) rfl
  have k5 := hcx 5 (.int .u64 (word x.first 3)) (by decide) rfl
  have k6 := hcx 6 (.int .u64 (word x.used 0)) (by decide) rfl
  have k7 := hcx 7 (.int .u64 (word x.used 1)) (by decide) rfl
  have k8 := hcx 8 (.int .u64 (word x.used 2)) (by decide) rfl
  have k9 := hcx 9 (.int .u64 (word x.used 3)) (by decide) rfl
  rw [Nat.add_zero] at k0
  have hb := h1.cell
  have hf := h1.frozen
  have hlt := h1.lt
  obtain ⟨n, hn⟩ : ∃ n, n = X.length := ⟨_, rfl⟩
  unfold StkL
  rw [← hn] at hb k0 k1 k2 k3 k4 k5 k6 k7 k8 k9 hX HP hcap ⊢
  have hw : IntKind.i64.wrap (((n + 1 : Nat) : Int) - 1) = n := by rw [IntKind.wrap_i64]; omega
  have hd : decide ((n : Int) < 0) = false := decide_eq_false (by omega)
  have hw2 : ((n + 1 : Nat) : Int) - 1 = n := by omega
  have q1 : w.heap.size ≠ B := by omega
  have q2 : w.heap.size + 1 ≠ B := by omega
  clear h h1 h2 hn hcx hlen
  unfold letV
  go_enter Tryz.func110, Tryz.ntmps110
  go_wp2
  have hs : (w.setCell ⟨B, 0, none⟩ (.slice (some ⟨g, 0, none⟩) n cap)).heap.size = w.heap.size := by simp [World.setCell]
  have hL := heap_alloc2_old (w.setCell ⟨B, 0, none⟩ (.slice (some ⟨g, 0, none⟩) n cap)) (.cells #[.bool x.some, .bool x.null, .int .u64 (word (x.first) 0), .int .u64 (word (x.first) 1), .int .u64 (word (x.first) 2), .int .u64 (word (x.first) 3), .int .u64 (word (x.used) 0), .int .u64 (word (x.used) 1), .int .u64 (word (x.used) 2), .int .u64 (word (x.used) 3)] 66) (.cells #[.bool x.some, .bool x.null, .int .u64 (word (x.first) 0), .int .u64 (word (x.first) 1), .int .u64 (word (x.first) 2), .int .u64 (word (x.first) 3), .int .u64 (word (x.used) 0), .int .u64 (word (x.used) 1), .int .u64 (word (x.used) 2), .int .u64 (word (x.used) 3)] 66)
  rw [hs] at hL
  exact ret_let (l := x) Tryz.results110 rfl rfl hL ⟨rfl, StkA.alloc (StkA.alloc HP.out _) _, gb_trans (gb_set B 0 _) (gb_trans (gb_alloc _) (gb_alloc _))⟩
end Go.Proofs.YthkboclooplpeaaGreatDoor
