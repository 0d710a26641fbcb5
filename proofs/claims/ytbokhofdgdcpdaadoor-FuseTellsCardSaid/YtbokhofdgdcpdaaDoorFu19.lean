/- SpStk, SpUn, SpBin, put together. -/
import Derived.Test.YtbokhofdgdcpdaaDoorFu16
import Derived.Test.YtbokhofdgdcpdaaDoorFu18
/- The stack of parts, as read keeps it: a boxed slice, nine cells each. -/
namespace Go.Proofs.YtbokhofdgdcpdaaDoor
open Go.RowKit Go.Lib Go.Joins
theorem gb_set {w : World} (b q : Nat) (v : Value) : w.grownBy (w.setCell ⟨b, q, none⟩ v) (some b) := ⟨rfl, rfl, rfl, by simp [World.setCell], fun k _ hk => heap_setCell_other _ _ _ _ fun e => hk (by rw [e])⟩
theorem one_news (w : World) (x : Value) (t : TypeId) : ∀ j u, [x][j]? = some u → (w.alloc (.cells #[x] t)).cell? ((⟨w.heap.size, 0, none⟩ : Addr).add j) = some u := fun j u hj => by
  match j, hj with
  | 0, hj =>
    simp only [List.getElem?_cons_zero, Option.some.injEq] at hj
    subst hj
    rw [Addr.add_lit, World.cell?_alloc_at _ _ _ _ rfl]
    rfl
theorem app_elem {w : World} {ops : Array Oper} {rest : List Oper} {o : Oper} {a : Act} {Q : Exit → Act → World → Prop} (hgd : o.guard = none) (s x : Operand) {SE E : TypeId} {k bytes : Nat} {z : Value}
    (ho : o.op = .call { callee := .builtin .append, args := #[s, x], argTypes := #[SE, SE] }) (ht : Tryd.prog.underlying SE = some (.slice E)) (hinfo : (Tryd.prog.info? E).map (fun i => (i.zero, i.size, i.bytes)) = some (some z, k, bytes)) (hzs : z.cells.size = k) (hk : 0 < k) (hby : bytes ≤ 1000)
    {base xb n g cap : Nat} {xs ys : List Value} (hs : a.eval s = .slice (some ⟨g, 0, none⟩) n cap) (hown : w.ownsRow base E k (.slice (some ⟨g, 0, none⟩) n cap) n xs) (hx : a.eval x = .slice (some ⟨xb, 0, none⟩) 1 1)
    (hxb : w.heap[xb]? = some (.cells ys.toArray E)) (hys : ys.length = k) (h1 : ∀ u ∈ ys, u.oneCell' = true) (hn2 : n ≤ 100000) (hb0 : base ≤ w.heap.size)
    (h : ∀ g' c' w', w'.ownsRow base E k (.slice (some ⟨g', 0, none⟩) (n + 1) c') (n + 1) (xs ++ ys) → w.grownBy w' (some g) → wpList Tryd.prog ops Q rest (a.put o.dst (.slice (some ⟨g', 0, none⟩) (n + 1) c')) w') : wpList Tryd.prog ops Q (o :: rest) a w := by
  obtain ⟨i0, hi, hz0, hz1, hz2⟩ := info_parts hinfo
  refine wpList_append_own w hgd s x SE ho base E i0 _ k bytes ht hi hz0 hz1 hz2 hzs hk _ n xs hs hown ⟨xb, 0, none⟩ 1 1 ys hx (by omega) (fun j u hj => ?_) h1 (by unfold maxLen; omega) ?_ hb0 fun v' w' h3 h4 _ => ?_
  · rw [Addr.add_lit, Nat.zero_add, cell_of_row w xb _ _ _ _ hxb]
    simpa using hj
  · have h5 : (n + 1) * bytes ≤ 100001 * 1000 := Nat.mul_le_mul (by omega) hby
    omega
  · rcases ownsRow_forms h3 with ⟨_, h0⟩ | ⟨g', c', rfl⟩
    · omega
    · exact h g' c' w' h3 h4
theorem cells_flat {α : Type} (f : α → List Value) (k : Nat) (hf : ∀ x, (f x).length = k) : ∀ l : List α, (l.flatMap f).length = l.length * k
  | [] => by simp
  | x :: r => by
    rw [List.flatMap_cons, List.length_append, hf x, cells_flat f k hf r, List.length_cons, Nat.add_mul]
    omega
/-- block B holds the row g, of n elements -/
def StkA (w : World) (SE E : TypeId) (k B base g cap n : Nat) (xs : List Value) : Prop := Boxed w B SE (.slice (some ⟨g, 0, none⟩) n cap) ∧ w.ownsRow base E k (.slice (some ⟨g, 0, none⟩) n cap) n xs
section
variable {w w' : World} {SE E : TypeId} {k B base g cap n : Nat} {xs : List Value}
theorem StkA.lt (h : StkA w SE E k B base g cap n xs) : B < w.heap.size := h.1.lt
theorem StkA.row (h : StkA w SE E k B base g cap n xs) : base ≤ g ∧ g < w.heap.size ∧ n ≤ cap ∧ cap ≤ maxLen := by
  rcases h.2.2 with ⟨h, _⟩ | ⟨g', cap', cur, h, hb, hg, hn, hm, _⟩
  · cases h
  · simp only [Value.slice.injEq, Option.some.injEq, Addr.mk.injEq, and_true, true_and] at h
    obtain ⟨rfl, rfl⟩ := h
    exact ⟨hb, (Array.getElem?_eq_some_iff.1 hg).1, hn, hm⟩
theorem StkA.ne (h : StkA w SE E k B base g cap n xs) (hSE : SE ≠ E) : g ≠ B := fun e => h.1.not_row hSE h.2 (by simp [Value.ownBlock, e])
theorem StkA.kept (h : StkA w SE E k B base g cap n xs) (h1 : w'.heap[B]? = w.heap[B]?) (h2 : w'.heap[g]? = w.heap[g]?) : StkA w' SE E k B base g cap n xs := by
  refine ⟨h1.trans h.1, h.2.1, ?_⟩
  rcases h.2.2 with h | ⟨g', cap', cur, h, hb, hg, r⟩
  · exact .inl h
  · simp only [Value.slice.injEq, Option.some.injEq, Addr.mk.injEq, and_true, true_and] at h
    obtain ⟨rfl, rfl⟩ := h
    exact .inr ⟨g, cap, cur, rfl, hb, h2.trans hg, r⟩
theorem StkA.below (h : StkA w SE E k B base g cap n xs) (hb : Below w.heap.size w w') : StkA w' SE E k B base g cap n xs := h.kept (hb.block B h.lt) (hb.block g h.row.2.1)
theorem StkA.alloc (h : StkA w SE E k B base g cap n xs) (o : Obj) : StkA (w.alloc o) SE E k B base g cap n xs := h.below ((Below.refl _ _).alloc (Nat.le_refl _) o)
theorem StkA.drew (h : StkA w SE E k B base g cap n xs) : StkA w.drew SE E k B base g cap n xs := h
theorem StkA.grown {b : Nat} (h : StkA w SE E k B base g cap n xs) (hg : w.grownBy w' (some b)) (h1 : B ≠ b) (h2 : g ≠ b) : StkA w' SE E k B base g cap n xs :=
  h.kept (hg.block B h.lt (by simpa using h1)) (hg.block g h.row.2.1 (by simpa using h2))
theorem StkA.pop {x : List Value} (hx : xs.length = n * k) (h : StkA w SE E k B base g cap (n + 1) (xs ++ x)) (hSE : SE ≠ E) :
    StkA (w.setCell ⟨B, 0, none⟩ (.slice (some ⟨g, 0, none⟩) n cap)) SE E k B base g cap n xs := by
  have hne := h.ne hSE
  obtain ⟨h1, h2⟩ := h
  refine ⟨h1.set _, hx, .inr ?_⟩
  rcases h2.2 with ⟨h, _⟩ | ⟨g', cap', cur, h, hb, hg, hn, hm, hs, ht⟩
  · cases h
  · simp only [Value.slice.injEq, Option.some.injEq, Addr.mk.injEq, and_true, true_and] at h
    obtain ⟨rfl, rfl⟩ := h
    refine ⟨g, cap, cur, rfl, hb, ?_, by omega, hm, hs, ?_⟩
    · rw [heap_setCell_other _ _ _ _ (show g ≠ B from hne)]
      exact hg
    · have e : cur.toList.take (n * k) = (cur.toList.take ((n + 1) * k)).take (n * k) := by
        rw [List.take_take]
        congr 1
        rw [Nat.add_mul]
        omega
      rw [e, ht, ← hx, List.take_left]
theorem StkA.push {ys : List Value} {g' cap' m : Nat} {w1 : World} (h1 : Boxed w B SE (.slice (some ⟨g, 0, none⟩) n cap)) (h2 : w.ownsRow base E k (.slice (some ⟨g, 0, none⟩) n cap) n xs) (hSE : SE ≠ E)
    (hg : w.grownBy w1 (Value.slice (some ⟨g, 0, none⟩) n cap).ownBlock) (hown : w1.ownsRow base E k (.slice (some ⟨g', 0, none⟩) m cap') m ys) : StkA (w1.setCell ⟨B, 0, none⟩ (.slice (some ⟨g', 0, none⟩) m cap')) SE E k B base g' cap' m ys := by
  have hne := h1.not_row hSE h2
  have h3 := h1.kept hg hne
  have hne2 := h3.not_row hSE hown
  exact ⟨h3.set _, hown.kept (gb_set B 0 _) (.inr fun e => hne2 e.symm)⟩
end
theorem flat_set {α : Type} (c : α → List Value) (k : Nat) (hc : ∀ x, (c x).length = k) (y : α) : ∀ (L : List α) (p : Nat), p < L.length → (L.flatMap c).take (p * k) ++ c y ++ (L.flatMap c).drop (p * k + k) = (L.set p y).flatMap c
  | [], p, h => by simp at h
  | x :: r, 0, h => by simp [hc x]
  | x :: r, p + 1, h => by
    have ih := flat_set c k hc y r p (by simpa using h)
    have e1 : (p + 1) * k = (c x).length + p * k := by rw [hc, Nat.add_mul]; omega
    have e2 : (p + 1) * k + k = (c x).length + (p * k + k) := by rw [e1]; omega
    rw [List.flatMap_cons, e2, List.drop_append, Nat.add_sub_cancel_left, e1, List.take_append, Nat.add_sub_cancel_left, List.take_of_length_le (by omega), List.drop_eq_nil_of_le (by omega), List.set_cons_succ, List.flatMap_cons, ← ih]
    simp
theorem row_turn {w : World} {base : Nat} {e : TypeId} {k g n cap : Nat} {xs : List Value} (h : w.ownsRow base e k (.slice (some ⟨g, 0, none⟩) n cap) n xs) (p : Nat) (hp : p < n) :
    ∃ cur, w.heap[g]? = some (.cells cur e (0, 0)) ∧ p * k + k ≤ cur.size ∧ ∀ cs : List Value, cs.length = k → (w.setRow g (cur.toList.take (p * k) ++ cs ++ cur.toList.drop (p * k + k)).toArray).ownsRow base e k (.slice (some ⟨g, 0, none⟩) n cap) n (xs.take (p * k) ++ cs ++ xs.drop (p * k + k)) := by
  obtain ⟨hl, h⟩ := h
  rcases h with ⟨h, _⟩ | ⟨g', cap', cur, h, hb, hg, hn, hm, hs, ht⟩
  · cases h
  · simp only [Value.slice.injEq, Option.some.injEq, Addr.mk.injEq, and_true, true_and] at h
    obtain ⟨rfl, rfl⟩ := h
    have h1 : p * k + k ≤ n * k := by
      have := Nat.mul_le_mul_right k (show p + 1 ≤ n by omega)
      rw [Nat.add_mul] at this
      omega
    have h2 : n * k ≤ cap * k := Nat.mul_le_mul_right k hn
    refine ⟨cur, hg, by omega, fun cs hcs => ⟨?_, .inr ⟨g, cap, _, rfl, hb, setRow_heap w g cur _ e _ hg, hn, hm, ?_, ?_⟩⟩⟩
    · simp only [List.length_append, List.length_take, List.length_drop]; omega
    · simp only [List.size_toArray, List.length_append, List.length_take, List.length_drop, Array.length_toList]; omega
    · have hcl : cur.toList.length = cap * k := by simpa using hs
      rw [List.append_assoc, List.append_assoc, List.take_append, List.take_append, ← ht]
      simp only [List.length_take, hcl]
      simp only [List.take_take, List.drop_take, hcs]
      rw [show min (n * k) (p * k) = p * k by omega, show min (p * k) (cap * k) = p * k by omega, show min (p * k) (n * k) = p * k by omega, List.take_of_length_le (l := cs) (by omega)]
      simp only [List.append_cancel_left_eq]
      rw [show n * k - p * k - k = n * k - (p * k + k) by omega]
def prtC (l : Prt) : List Value := [.int .u64 (word (l.first) 0), .int .u64 (word (l.first) 1), .int .u64 (word (l.first) 2), .int .u64 (word (l.first) 3), .int .u64 (word (l.last) 0), .int .u64 (word (l.last) 1), .int .u64 (word (l.last) 2), .int .u64 (word (l.last) 3), .bool l.free]
theorem prtC_length (l : Prt) : (prtC l).length = 9 := rfl
/-- what waits: block B holds these parts, the last one at the end -/
def StkP (w : World) (B base g cap : Nat) (X : List Prt) : Prop := StkA w 99 72 9 B base g cap X.length (X.flatMap prtC)
section
variable {w w' : World} {B base g cap : Nat} {X : List Prt}
theorem StkP.below (h : StkP w B base g cap X) (hb : Below w.heap.size w w') : StkP w' B base g cap X := StkA.below h hb
theorem StkP.drew (h : StkP w B base g cap X) : StkP w.drew B base g cap X := h
theorem StkP.lt (h : StkP w B base g cap X) : B < w.heap.size ∧ base ≤ g ∧ g < w.heap.size ∧ X.length ≤ cap ∧ cap ≤ maxLen := ⟨StkA.lt h, StkA.row h⟩
/-- what turns another block keeps it -/
theorem StkP.row {row : Option Nat} (h : StkP w B base g cap X) (hg : w.grownBy w' row) (hr : ∀ j, row = some j → j < base ∧ j ≠ B) : StkP w' B base g cap X :=
  StkA.kept h (hg.block B (StkA.lt h) (fun e => (hr _ e.symm).2 rfl)) (hg.block g h.lt.2.2.1 (fun e => by have := (hr _ e.symm).1; have := h.lt.2.1; omega))
/-- the cells of one -/
theorem StkP.cells (h : StkP w B base g cap X) {p : Nat} {x : Prt} (hx : X[p]? = some x) : ∀ j v, (prtC x)[j]? = some v → w.cell? ⟨g, p * 9 + j, none⟩ = some v := fun j v hv => by
  have hj : j < 9 := (List.getElem?_eq_some_iff.1 hv).1
  obtain ⟨hp, hxe⟩ := List.getElem?_eq_some_iff.1 hx
  have hp9 : p * 9 + j < X.length * 9 := by omega
  rw [World.ownsRow.cellAt h.2 (p * 9 + j) hp9]
  have key : ∀ (Y : List Prt) (p : Nat), Y[p]? = some x → (Y.flatMap prtC)[p * 9 + j]? = some v := by
    intro Y
    induction Y with
    | nil => intro p h; simp at h
    | cons y r ih =>
      intro p h
      rw [List.flatMap_cons]
      cases p with
      | zero =>
        simp only [List.getElem?_cons_zero, Option.some.injEq] at h
        subst h
        rw [Nat.zero_mul, Nat.zero_add, List.getElem?_append_left (by rw [prtC_length]; omega)]
        exact hv
      | succ p =>
        rw [List.getElem?_append_right (by rw [prtC_length]; omega), prtC_length, show (p + 1) * 9 + j - 9 = p * 9 + j by omega]
        exact ih p (by simpa using h)
  exact key X p hx
/-- one is turned -/
theorem StkP.turn (h : StkP w B base g cap X) (p : Nat) (hp : p < X.length) : ∃ cur, w.heap[g]? = some (.cells cur 72 (0, 0)) ∧ p * 9 + 9 ≤ cur.size ∧ ∀ y : Prt, StkP (w.setRow g (cur.toList.take (p * 9) ++ prtC y ++ cur.toList.drop (p * 9 + 9)).toArray) B base g cap (X.set p y) := by
  obtain ⟨cur, h1, h2, h3⟩ := row_turn h.2 p hp
  refine ⟨cur, h1, h2, fun y => ⟨?_, ?_⟩⟩
  · rw [List.length_set]
    exact (setRow_other w g B _ (Ne.symm (StkA.ne h (by decide)))).trans h.1
  · have := h3 (prtC y) rfl
    rw [flat_set prtC 9 prtC_length y X p hp] at this
    rw [List.length_set]
    exact this
end
end Go.Proofs.YtbokhofdgdcpdaaDoor

/- Contract of read's closure unary, whatever it combines by. -/
namespace Go.Proofs.YtbokhofdgdcpdaaDoor
open Go.RowKit Go.Lib Go.Joins
theorem gb_refl {row : Option Nat} (w : World) : w.grownBy w row := ⟨rfl, rfl, rfl, Nat.le_refl _, fun _ _ _ => rfl⟩
/-- what a call that turns the block of a row and the row's own block leaves -/
def Mp (g : Nat) (row : Option Nat) (w w' : World) : Prop := w'.os = w.os ∧ w'.tape = w.tape ∧ w'.output = w.output ∧ w.heap.size ≤ w'.heap.size ∧ ∀ k, k < w.heap.size → k ≠ g → some k ≠ row → w'.heap[k]? = w.heap[k]?
theorem Mp.of {g : Nat} {row : Option Nat} {w w1 w2 : World} (h : w.grownBy w1 row) (k : w1.grownBy w2 (some g)) : Mp g row w w2 :=
  ⟨k.os.trans h.os, k.tape.trans h.tape, k.output.trans h.output, Nat.le_trans h.size k.size, fun i hi h1 h2 => (k.block i (Nat.lt_of_lt_of_le hi h.size) (fun e => h1 (by simpa using e))).trans (h.block i hi h2)⟩
theorem gb_setRow {w : World} {g : Nat} {cs : Array Value} : w.grownBy (w.setRow g cs) (some g) := ⟨rfl, rfl, rfl, by simp, fun k _ hk => setRow_other w g k _ (by simpa using hk)⟩
attribute [local go_sem] Rl.evalR_tmp Rl.evalR_const Rl.evalR_global Rl.evalR_func
def Lun (fc : FuncId) (cc : Array Value) (g n cap : Nat) (x y : Prt) (J2 : World → Prop) : List (Value → World → Prop) := [Rl.Is (.slice (some ⟨g, 0, none⟩) (n + 1) cap), Rl.Is (.int .i64 (n : Int)), Rl.Is (.func (.func fc) #[] cc), Rl.Is (.slice (some ⟨g, 0, none⟩) (n + 1) cap), Rl.Is (.int .i64 (n : Int)), Rl.Is (.pointer (some ⟨g, n * 9, none⟩)), Rl.Is (.agg #[.int .u64 (word (x.first) 0), .int .u64 (word (x.first) 1), .int .u64 (word (x.first) 2), .int .u64 (word (x.first) 3), .int .u64 (word (x.last) 0), .int .u64 (word (x.last) 1), .int .u64 (word (x.last) 2), .int .u64 (word (x.last) 3), .bool x.free]), fun v w => v = .agg #[.int .u64 (word (y.first) 0), .int .u64 (word (y.first) 1), .int .u64 (word (y.first) 2), .int .u64 (word (y.first) 3), .int .u64 (word (y.last) 0), .int .u64 (word (y.last) 1), .int .u64 (word (y.last) 2), .int .u64 (word (y.last) 3), .bool y.free] ∧ J2 w, Rl.Is (.pointer (some ⟨g, n * 9, none⟩))]
set_option maxHeartbeats 8000000 in
set_option maxRecDepth 100000 in
theorem unary_calls {w : World} {B base g cap : Nat} {X : List Prt} {x y : Prt} {fc : FuncId} {cc : Array Value} {row : Option Nat} {J1 J2 : World → Prop}
    (h : StkP w B base g cap (X ++ [x])) (hX : X.length ≤ 1000) (e1 : ∀ args w, (callFunc fc args).run Tryd.prog w = .ok (.enter fc args) w)
    (hJ : J1 w) (hJd : ∀ w, J1 w → J1 w.drew) (hr : ∀ j, row = some j → j < base ∧ j ≠ B) (hJo : ∀ w1 w2, J2 w1 → w1.grownBy w2 (some g) → J2 w2)
    (HC : ∀ w1, J1 w1 ∨ J2 w1 → StkP w1 B base g cap (X ++ [x]) → w.heap.size ≤ w1.heap.size → Calls Tryd.prog fc (#[prtV x] ++ cc) w1 fun e w2 => e = .returned (prtV y) ∧ J2 w2 ∧ w1.grownBy w2 row) :
    Calls Tryd.prog 79 #[.func (.func fc) #[] cc, .pointer (some ⟨B, 0, none⟩)] w fun e w' => e = .returned (.tuple #[]) ∧ J2 w' ∧ StkP w' B base g cap (X ++ [y]) ∧ Mp g row w w' := by
  have hlb := h.lt
  have hcb := h.1.cell
  simp only [List.length_append, List.length_cons, List.length_nil, Nat.zero_add] at hcb hlb
  obtain ⟨n, hn⟩ : ∃ n, n = X.length := ⟨_, rfl⟩
  have HF := hidden (fun w1 (h1 : StkP w1 B base g cap (X ++ [x])) => show w1.cell? ⟨B, 0, none⟩ = some (.slice (some ⟨g, 0, none⟩) (n + 1) cap) ∧ w1.cell? ⟨g, n * 9, none⟩ = some (.int .u64 (word x.first 0)) ∧ w1.cell? ⟨g, n * 9 + 1, none⟩ = some (.int .u64 (word x.first 1)) ∧ w1.cell? ⟨g, n * 9 + 2, none⟩ = some (.int .u64 (word x.first 2)) ∧ w1.cell? ⟨g, n * 9 + 3, none⟩ = some (.int .u64 (word x.first 3)) ∧ w1.cell? ⟨g, n * 9 + 4, none⟩ = some (.int .u64 (word x.last 0)) ∧ w1.cell? ⟨g, n * 9 + 5, none⟩ = some (.int .u64 (word x.last 1)) ∧ w1.cell? ⟨g, n * 9 + 6, none⟩ = some (.int .u64 (word x.last 2)) ∧ w1.cell? ⟨g, n * 9 + 7, none⟩ = some (.int .u64 (word x.last 3)) ∧ w1.cell? ⟨g, n * 9 + 8, none⟩ = some (.bool x.free) from by
    have hc := h1.1.cell
    simp only [List.length_append, List.length_cons, List.length_nil, Nat.zero_add] at hc
    have hx := h1.cells (p := n) (x := x) (by rw [hn]; simp)
    exact ⟨by rw [hn]; exact hc, by simpa using hx 0 _ rfl, hx 1 _ rfl, hx 2 _ rfl, hx 3 _ rfl, hx 4 _ rfl, hx 5 _ rfl, hx 6 _ rfl, hx 7 _ rfl, hx 8 _ rfl⟩)
  have HT := hidden (fun w1 (h1 : StkP w1 B base g cap (X ++ [x])) => show ∃ cur, w1.heap[g]? = some (.cells cur 72 (0, 0)) ∧ n * 9 + 9 ≤ cur.size ∧ StkP (w1.setRow g (cur.toList.take (n * 9) ++ (#[.int .u64 (word (y.first) 0), .int .u64 (word (y.first) 1), .int .u64 (word (y.first) 2), .int .u64 (word (y.first) 3), .int .u64 (word (y.last) 0), .int .u64 (word (y.last) 1), .int .u64 (word (y.last) 2), .int .u64 (word (y.last) 3), .bool y.free] : Array Value).toList ++ cur.toList.drop (n * 9 + 9)).toArray) B base g cap (X ++ [y]) from by
    obtain ⟨cur, h2, h3, h4⟩ := h1.turn n (by rw [hn]; simp)
    refine ⟨cur, h2, h3, ?_⟩
    have h5 := h4 y
    rw [hn, List.set_append_right _ _ (Nat.le_refl _), Nat.sub_self] at h5
    rw [hn]
    exact h5)
  have H0 := hidden h
  have HR := hidden hr
  have HJ := hidden (hJd _ hJ)
  have HJO := hidden hJo
  have HC := hidden HC
  rw [← hn] at hcb hlb hX
  have hw : IntKind.i64.wrap (((n + 1 : Nat) : Int) - 1) = n := by rw [IntKind.wrap_i64]; omega
  have hw2 : ((n + 1 : Nat) : Int) - 1 = n := by omega
  have hw3 : IntKind.i64.wrap ((n : Int) + 1 - 1) = n := by rw [IntKind.wrap_i64]; omega
  have hd : decide ((n : Int) < 0) = false := decide_eq_false (by omega)
  have hi1 : (n : Int) < (n : Int) + 1 := by omega
  have hi2 : n < n + 1 := by omega
  obtain ⟨hlB, hgb, hlg, hcap, hmax⟩ := hlb
  unfold maxLen at hmax
  clear h hr hJ hJd hJo hn
  unfold prtV at HC
  go_enter Tryd.func79, Tryd.ntmps79
  go_wp2
  refine Rl.wp_region_stepsL (R := fun w1 w2 => w1.grownBy w2 row ∧ (J2 w1 → J2 w2)) 9 (Rl.typ (Lun fc cc g n cap x y J2)) (fun w1 => StkP w1 B base g cap (X ++ [x]) ∧ (J1 w1 ∨ J2 w1) ∧ w.grownBy w1 row) (fun w => ⟨gb_refl w, id⟩) (by kernel_rfl) (by kernel_rfl) (by kernel_rfl) (by kernel_rfl) (by kernel_rfl) (by kernel_rfl) ?mono ?start ?step ?last
  case mono =>
    refine Rl.typ_mono ?_
    simp only [Lun, List.forall_mem_cons]
    repeat' (first | exact (fun v w w' h _ => h) | (intro p hp; cases hp; done) | exact (fun v w w' h k => ⟨h.1, k.2 h.2⟩) | refine And.intro ?_ ?_)
  case start => exact ⟨H0.out, .inl HJ.out, ⟨rfl, rfl, rfl, Nat.le_refl _, fun _ _ _ => rfl⟩⟩
  case last =>
    intro a1 w1 hs hv hW
    have h15 : a1.tmps.getD 15 undef = .pointer (some ⟨g, n * 9, none⟩) := hv 8 15 (by decide) (by kernel_rfl)
    obtain ⟨h14, hj⟩ : a1.tmps.getD 14 undef = .agg #[.int .u64 (word (y.first) 0), .int .u64 (word (y.first) 1), .int .u64 (word (y.first) 2), .int .u64 (word (y.first) 3), .int .u64 (word (y.last) 0), .int .u64 (word (y.last) 1), .int .u64 (word (y.last) 2), .int .u64 (word (y.last) 3), .bool y.free] ∧ J2 w1 := hv 7 14 (by decide) (by kernel_rfl)
    have hd := hs.defers
    obtain ⟨cur, hc1, hc2, hc3⟩ := HT.out w1 hW.1
    have HS := hidden hc3
    have HJ2 := hidden (HJO.out _ _ hj (gb_setRow (w := w1) (g := g) (cs := (cur.toList.take (n * 9) ++ (#[.int .u64 (word (y.first) 0), .int .u64 (word (y.first) 1), .int .u64 (word (y.first) 2), .int .u64 (word (y.first) 3), .int .u64 (word (y.last) 0), .int .u64 (word (y.last) 1), .int .u64 (word (y.last) 2), .int .u64 (word (y.last) 3), .bool y.free] : Array Value).toList ++ cur.toList.drop (n * 9 + 9)).toArray)))
    have HM := hidden (Mp.of hW.2.2 (gb_setRow (w := w1) (g := g) (cs := (cur.toList.take (n * 9) ++ (#[.int .u64 (word (y.first) 0), .int .u64 (word (y.first) 1), .int .u64 (word (y.first) 2), .int .u64 (word (y.first) 3), .int .u64 (word (y.last) 0), .int .u64 (word (y.last) 1), .int .u64 (word (y.last) 2), .int .u64 (word (y.last) 3), .bool y.free] : Array Value).toList ++ cur.toList.drop (n * 9 + 9)).toArray)))
    clear hs hv hW hj hc3
    refine wpOp_of_list rfl rfl ?_
    refine store_at (g := g) (off := n * 9) (cs := #[.int .u64 (word (y.first) 0), .int .u64 (word (y.first) 1), .int .u64 (word (y.first) 2), .int .u64 (word (y.first) 3), .int .u64 (word (y.last) 0), .int .u64 (word (y.last) 1), .int .u64 (word (y.last) 2), .int .u64 (word (y.last) 3), .bool y.free]) (cur := cur) (t := 72) rfl (ty := 72) (x := .tmp 15) (y := .tmp 14) rfl h15 h14 hc1 9 (by kernel_rfl) rfl hc2 (by kernel_rfl) ?_
    generalize w1.setRow g (cur.toList.take (n * 9) ++ (#[.int .u64 (word (y.first) 0), .int .u64 (word (y.first) 1), .int .u64 (word (y.first) 2), .int .u64 (word (y.first) 3), .int .u64 (word (y.last) 0), .int .u64 (word (y.last) 1), .int .u64 (word (y.last) 2), .int .u64 (word (y.last) 3), .bool y.free] : Array Value).toList ++ cur.toList.drop (n * 9 + 9)).toArray = w9 at *
    go_wp2
    first | go_end0 | (refine bodyPost_end (results_none rfl _ _ _) rfl ?_) | (refine bodyPost_end (results_none rfl _ _ _) hd ?_)
    exact ⟨rfl, HJ2.out, HS.out, HM.out⟩
  case step =>
    refine ⟨?_, ?_, ?_, ?_, ?_, ?_, ?_, ?_, ?_, trivial⟩
    · change Rl.StepOk _ _ _ _ _ _ _ _
      intro ρ w1 hF hW
      have HW := hidden hW
      clear hW
      have e1 : ρ 1 = .pointer (some ⟨B, 0, none⟩) := hF 1 (by decide)
      clear hF
      obtain ⟨hb, k0, k1, k2, k3, k4, k5, k6, k7, k8⟩ := HF.out w1 HW.out.1
      unfold Rl.Does
      go_simp
      exact ⟨rfl, HW.out, gb_refl _⟩
    · change Rl.StepOk _ _ _ _ _ _ _ _
      intro ρ w1 hF hW
      have HW := hidden hW
      clear hW
      have e3 : ρ 3 = .int .i64 (n : Int) := hF 3 (by decide)
      clear hF
      unfold Rl.Does
      go_simp
      exact ⟨rfl, HW.out, gb_refl _⟩
    · change Rl.StepOk _ _ _ _ _ _ _ _
      intro ρ w1 hF hW
      have HW := hidden hW
      clear hW
      have e0 : ρ 0 = .func (.func fc) #[] cc := hF 0 (by decide)
      clear hF
      unfold Rl.Does
      go_simp
      exact ⟨rfl, HW.out, gb_refl _⟩
    · change Rl.StepOk _ _ _ _ _ _ _ _
      intro ρ w1 hF hW
      have HW := hidden hW
      clear hW
      have e1 : ρ 1 = .pointer (some ⟨B, 0, none⟩) := hF 1 (by decide)
      clear hF
      obtain ⟨hb, k0, k1, k2, k3, k4, k5, k6, k7, k8⟩ := HF.out w1 HW.out.1
      unfold Rl.Does
      go_simp
      exact ⟨rfl, HW.out, gb_refl _⟩
    · change Rl.StepOk _ _ _ _ _ _ _ _
      intro ρ w1 hF hW
      have HW := hidden hW
      clear hW
      have e3 : ρ 3 = .int .i64 (n : Int) := hF 3 (by decide)
      clear hF
      unfold Rl.Does
      go_simp
      exact ⟨rfl, HW.out, gb_refl _⟩
    · change Rl.StepOk _ _ _ _ _ _ _ _
      intro ρ w1 hF hW
      have HW := hidden hW
      clear hW
      have e10 : ρ 10 = .slice (some ⟨g, 0, none⟩) (n + 1) cap := hF 10 (by decide)
      have e11 : ρ 11 = .int .i64 (n : Int) := hF 11 (by decide)
      clear hF
      unfold Rl.Does
      go_simp
      exact ⟨rfl, HW.out, gb_refl _⟩
    · change Rl.StepOk _ _ _ _ _ _ _ _
      intro ρ w1 hF hW
      have HW := hidden hW
      clear hW
      have e12 : ρ 12 = .pointer (some ⟨g, n * 9, none⟩) := hF 12 (by decide)
      clear hF
      obtain ⟨hb, k0, k1, k2, k3, k4, k5, k6, k7, k8⟩ := HF.out w1 HW.out.1
      unfold Rl.Does
      go_simp
      exact ⟨rfl, HW.out, gb_refl _⟩
    · change Rl.StepOk _ _ _ _ _ _ _ _
      intro ρ w1 hF hW
      have HW := hidden hW
      clear hW
      have e9 : ρ 9 = .func (.func fc) #[] cc := hF 9 (by decide)
      have e13 : ρ 13 = .agg #[.int .u64 (word (x.first) 0), .int .u64 (word (x.first) 1), .int .u64 (word (x.first) 2), .int .u64 (word (x.first) 3), .int .u64 (word (x.last) 0), .int .u64 (word (x.last) 1), .int .u64 (word (x.last) 2), .int .u64 (word (x.last) 3), .bool x.free] := hF 13 (by decide)
      clear hF
      unfold Rl.Does
      go_simp
      refine (HC.out _ HW.out.2.1 HW.out.1 HW.out.2.2.size).mono ?_
      rintro e w2 ⟨rfl, hj, hg⟩
      exact ⟨_, rfl, ⟨rfl, hj⟩, ⟨HW.out.1.row hg HR.out, .inr hj, gb_trans HW.out.2.2 hg⟩, hg, fun _ => hj⟩
    · change Rl.StepOk _ _ _ _ _ _ _ _
      intro ρ w1 hF hW
      have HW := hidden hW
      clear hW
      have e7 : ρ 7 = .slice (some ⟨g, 0, none⟩) (n + 1) cap := hF 7 (by decide)
      have e8 : ρ 8 = .int .i64 (n : Int) := hF 8 (by decide)
      clear hF
      unfold Rl.Does
      go_simp
      exact ⟨rfl, HW.out, gb_refl _⟩
end Go.Proofs.YtbokhofdgdcpdaaDoor

/- Contract of read's closure binary, whatever it combines by. -/
namespace Go.Proofs.YtbokhofdgdcpdaaDoor
open Go.RowKit Go.Lib Go.Joins
theorem arr_split (t : Array Value) : t = ((List.range t.size).map fun i => t.getD i undef).toArray := by
  apply Array.ext
  · simp
  · intro i h1 h2
    simp [h1]
theorem arr25 {t : Array Value} (h : t.size = 25) : t = #[t.getD 0 undef, t.getD 1 undef, t.getD 2 undef, t.getD 3 undef, t.getD 4 undef, t.getD 5 undef, t.getD 6 undef, t.getD 7 undef, t.getD 8 undef, t.getD 9 undef, t.getD 10 undef, t.getD 11 undef, t.getD 12 undef, t.getD 13 undef, t.getD 14 undef, t.getD 15 undef, t.getD 16 undef, t.getD 17 undef, t.getD 18 undef, t.getD 19 undef, t.getD 20 undef, t.getD 21 undef, t.getD 22 undef, t.getD 23 undef, t.getD 24 undef] := (arr_split t).trans (by rw [h]; rfl)
theorem wpList_q {P : Program} {ops : Array Oper} {Q : Exit → Act → World → Prop} {l : List Oper} {a : Act} {w : World} {K : Act → World → Prop} (h1 : ∀ Q : Exit → Act → World → Prop, (∀ a w, K a w → Q .normal a w) → wpList P ops Q l a w) (h2 : ∀ a w, K a w → Q .normal a w) : wpList P ops Q l a w := h1 Q h2
/-- what a call that turns the block of a row, the box of a slice and the slice's own blocks leaves -/
def Mb (base : Nat) (row : Option Nat) (w w' : World) : Prop := w'.os = w.os ∧ w'.tape = w.tape ∧ w'.output = w.output ∧ w.heap.size ≤ w'.heap.size ∧ ∀ k, k < base → some k ≠ row → w'.heap[k]? = w.heap[k]?
theorem Mp.mb {g base : Nat} {row : Option Nat} {w w' : World} (h : Mp g row w w') (hg : base ≤ g) (hb : base ≤ w.heap.size) : Mb base row w w' := ⟨h.1, h.2.1, h.2.2.1, h.2.2.2.1, fun k hk hr => h.2.2.2.2 k (by omega) (by omega) hr⟩
theorem Mb.set {base B : Nat} {row : Option Nat} {w w' : World} (h : Mb base row w w') (hB : base ≤ B) (v : Value) : Mb base row w (w'.setCell ⟨B, 0, none⟩ v) :=
  ⟨h.1, h.2.1, h.2.2.1, by simpa [World.setCell] using h.2.2.2.1, fun k hk hr => (heap_setCell_other _ _ _ _ (show k ≠ B by omega)).trans (h.2.2.2.2 k hk hr)⟩
attribute [local go_sem] Rl.evalR_tmp Rl.evalR_const Rl.evalR_global Rl.evalR_func
def Lbin (fc : FuncId) (cc : Array Value) (g n cap : Nat) (x z y : Prt) (J2 : World → Prop) : List (Value → World → Prop) := [Rl.Is (.slice (some ⟨g, 0, none⟩) (n + 2) cap), Rl.Is (.int .i64 (n : Int)), Rl.Is (.func (.func fc) #[] cc), Rl.Is (.slice (some ⟨g, 0, none⟩) (n + 2) cap), Rl.Is (.int .i64 (n : Int)), Rl.Is (.pointer (some ⟨g, n * 9, none⟩)), Rl.Is (.agg #[.int .u64 (word (x.first) 0), .int .u64 (word (x.first) 1), .int .u64 (word (x.first) 2), .int .u64 (word (x.first) 3), .int .u64 (word (x.last) 0), .int .u64 (word (x.last) 1), .int .u64 (word (x.last) 2), .int .u64 (word (x.last) 3), .bool x.free]), Rl.Is (.slice (some ⟨g, 0, none⟩) (n + 2) cap), Rl.Is (.int .i64 (n : Int)), Rl.Is (.int .i64 ((n : Int) + 1)), Rl.Is (.pointer (some ⟨g, (n + 1) * 9, none⟩)), Rl.Is (.agg #[.int .u64 (word (z.first) 0), .int .u64 (word (z.first) 1), .int .u64 (word (z.first) 2), .int .u64 (word (z.first) 3), .int .u64 (word (z.last) 0), .int .u64 (word (z.last) 1), .int .u64 (word (z.last) 2), .int .u64 (word (z.last) 3), .bool z.free]), fun v w => v = .agg #[.int .u64 (word (y.first) 0), .int .u64 (word (y.first) 1), .int .u64 (word (y.first) 2), .int .u64 (word (y.first) 3), .int .u64 (word (y.last) 0), .int .u64 (word (y.last) 1), .int .u64 (word (y.last) 2), .int .u64 (word (y.last) 3), .bool y.free] ∧ J2 w, Rl.Is (.pointer (some ⟨g, n * 9, none⟩))]
set_option maxHeartbeats 8000000 in
set_option maxRecDepth 100000 in
theorem binary_calls {w : World} {B base g cap : Nat} {X : List Prt} {x z y : Prt} {fc : FuncId} {cc : Array Value} {row : Option Nat} {J1 J2 : World → Prop}
    (h : StkP w B base g cap (X ++ [x, z])) (hX : X.length ≤ 1000) (hB : base ≤ B) (e1 : ∀ args w, (callFunc fc args).run Tryd.prog w = .ok (.enter fc args) w)
    (hJ : J1 w) (hJd : ∀ w, J1 w → J1 w.drew) (hr : ∀ j, row = some j → j < base ∧ j ≠ B) (hJo : ∀ w1 w2, J2 w1 → w1.grownBy w2 (some g) → J2 w2) (hJs : ∀ w1 v, J2 w1 → J2 (w1.setCell ⟨B, 0, none⟩ v))
    (HC : ∀ w1, J1 w1 ∨ J2 w1 → StkP w1 B base g cap (X ++ [x, z]) → w.heap.size ≤ w1.heap.size → Calls Tryd.prog fc (#[prtV x, prtV z] ++ cc) w1 fun e w2 => e = .returned (prtV y) ∧ J2 w2 ∧ w1.grownBy w2 row) :
    Calls Tryd.prog 80 #[.func (.func fc) #[] cc, .pointer (some ⟨B, 0, none⟩)] w fun e w' => e = .returned (.tuple #[]) ∧ J2 w' ∧ StkP w' B base g cap (X ++ [y]) ∧ Mb base row w w' := by
  have hlb := h.lt
  have hcb := h.1.cell
  simp only [List.length_append, List.length_cons, List.length_nil, Nat.zero_add, Nat.reduceAdd] at hcb hlb
  obtain ⟨n, hn⟩ : ∃ n, n = X.length := ⟨_, rfl⟩
  have HF := hidden (fun w1 (h1 : StkP w1 B base g cap (X ++ [x, z])) => show w1.cell? ⟨B, 0, none⟩ = some (.slice (some ⟨g, 0, none⟩) (n + 2) cap) ∧ w1.cell? ⟨g, n * 9, none⟩ = some (.int .u64 (word x.first 0)) ∧ w1.cell? ⟨g, n * 9 + 1, none⟩ = some (.int .u64 (word x.first 1)) ∧ w1.cell? ⟨g, n * 9 + 2, none⟩ = some (.int .u64 (word x.first 2)) ∧ w1.cell? ⟨g, n * 9 + 3, none⟩ = some (.int .u64 (word x.first 3)) ∧ w1.cell? ⟨g, n * 9 + 4, none⟩ = some (.int .u64 (word x.last 0)) ∧ w1.cell? ⟨g, n * 9 + 5, none⟩ = some (.int .u64 (word x.last 1)) ∧ w1.cell? ⟨g, n * 9 + 6, none⟩ = some (.int .u64 (word x.last 2)) ∧ w1.cell? ⟨g, n * 9 + 7, none⟩ = some (.int .u64 (word x.last 3)) ∧ w1.cell? ⟨g, n * 9 + 8, none⟩ = some (.bool x.free) ∧ w1.cell? ⟨g, (n + 1) * 9, none⟩ = some (.int .u64 (word z.first 0)) ∧ w1.cell? ⟨g, (n + 1) * 9 + 1, none⟩ = some (.int .u64 (word z.first 1)) ∧ w1.cell? ⟨g, (n + 1) * 9 + 2, none⟩ = some (.int .u64 (word z.first 2)) ∧ w1.cell? ⟨g, (n + 1) * 9 + 3, none⟩ = some (.int .u64 (word z.first 3)) ∧ w1.cell? ⟨g, (n + 1) * 9 + 4, none⟩ = some (.int .u64 (word z.last 0)) ∧ w1.cell? ⟨g, (n + 1) * 9 + 5, none⟩ = some (.int .u64 (word z.last 1)) ∧ w1.cell? ⟨g, (n + 1) * 9 + 6, none⟩ = some (.int .u64 (word z.last 2)) ∧ w1.cell? ⟨g, (n + 1) * 9 + 7, none⟩ = some (.int .u64 (word z.last 3)) ∧ w1.cell? ⟨g, (n + 1) * 9 + 8, none⟩ = some (.bool z.free) from by
    have hc := h1.1.cell
    simp only [List.length_append, List.length_cons, List.length_nil, Nat.zero_add, Nat.reduceAdd] at hc
    have hx := h1.cells (p := n) (x := x) (by rw [hn]; simp)
    have hz := h1.cells (p := n + 1) (x := z) (by rw [hn]; simp)
    exact ⟨by rw [hn]; exact hc, by simpa using hx 0 _ rfl, hx 1 _ rfl, hx 2 _ rfl, hx 3 _ rfl, hx 4 _ rfl, hx 5 _ rfl, hx 6 _ rfl, hx 7 _ rfl, hx 8 _ rfl, by simpa using hz 0 _ rfl, hz 1 _ rfl, hz 2 _ rfl, hz 3 _ rfl, hz 4 _ rfl, hz 5 _ rfl, hz 6 _ rfl, hz 7 _ rfl, hz 8 _ rfl⟩)
  have HT := hidden (fun w1 (h1 : StkP w1 B base g cap (X ++ [x, z])) => show ∃ cur, w1.heap[g]? = some (.cells cur 72 (0, 0)) ∧ n * 9 + 9 ≤ cur.size ∧ (w1.setRow g (cur.toList.take (n * 9) ++ (#[.int .u64 (word (y.first) 0), .int .u64 (word (y.first) 1), .int .u64 (word (y.first) 2), .int .u64 (word (y.first) 3), .int .u64 (word (y.last) 0), .int .u64 (word (y.last) 1), .int .u64 (word (y.last) 2), .int .u64 (word (y.last) 3), .bool y.free] : Array Value).toList ++ cur.toList.drop (n * 9 + 9)).toArray).cell? ⟨B, 0, none⟩ = some (.slice (some ⟨g, 0, none⟩) (n + 2) cap) ∧ (w1.setRow g (cur.toList.take (n * 9) ++ (#[.int .u64 (word (y.first) 0), .int .u64 (word (y.first) 1), .int .u64 (word (y.first) 2), .int .u64 (word (y.first) 3), .int .u64 (word (y.last) 0), .int .u64 (word (y.last) 1), .int .u64 (word (y.last) 2), .int .u64 (word (y.last) 3), .bool y.free] : Array Value).toList ++ cur.toList.drop (n * 9 + 9)).toArray).frozen? ⟨B, 0, none⟩ = false ∧ StkP ((w1.setRow g (cur.toList.take (n * 9) ++ (#[.int .u64 (word (y.first) 0), .int .u64 (word (y.first) 1), .int .u64 (word (y.first) 2), .int .u64 (word (y.first) 3), .int .u64 (word (y.last) 0), .int .u64 (word (y.last) 1), .int .u64 (word (y.last) 2), .int .u64 (word (y.last) 3), .bool y.free] : Array Value).toList ++ cur.toList.drop (n * 9 + 9)).toArray).setCell ⟨B, 0, none⟩ (.slice (some ⟨g, 0, none⟩) (n + 1) cap)) B base g cap (X ++ [y]) from by
    obtain ⟨cur, h2, h3, h4⟩ := h1.turn n (by rw [hn]; simp)
    have h5 := h4 y
    rw [hn, List.set_append_right _ _ (Nat.le_refl _), Nat.sub_self] at h5
    rw [hn] at h3 ⊢
    refine ⟨cur, h2, h3, ?_⟩
    have h6 : StkP (w1.setRow g (cur.toList.take (X.length * 9) ++ prtC y ++ cur.toList.drop (X.length * 9 + 9)).toArray) B base g cap (X ++ [y, z]) := h5
    have hc := h6.1.cell
    have hf := h6.1.frozen
    simp only [List.length_append, List.length_cons, List.length_nil, Nat.zero_add, Nat.reduceAdd] at hc
    refine ⟨hc, hf, ?_⟩
    have h7 := StkA.pop (k := 9) (n := X.length + 1) (xs := (X ++ [y]).flatMap prtC) (x := prtC z) (by rw [cells_flat prtC 9 prtC_length]; simp) (by
      have h8 := h6
      unfold StkP at h8
      simp only [List.length_append, List.length_cons, List.length_nil, List.flatMap_append, List.flatMap_cons, List.flatMap_nil, List.append_nil, Nat.zero_add, Nat.reduceAdd] at h8
      simp only [List.flatMap_append, List.flatMap_cons, List.flatMap_nil, List.append_nil, List.append_assoc]
      exact h8) (by decide)
    unfold StkP
    simp only [List.length_append, List.length_cons, List.length_nil, Nat.zero_add]
    exact h7)
  have H0 := hidden h
  have HR := hidden hr
  have HJ := hidden (hJd _ hJ)
  have HJO := hidden hJo
  have HJS := hidden hJs
  have HC := hidden HC
  have HBB := hidden hB
  rw [← hn] at hcb hlb hX
  have hw : IntKind.i64.wrap (((n + 2 : Nat) : Int) - 2) = n := by rw [IntKind.wrap_i64]; omega
  have hw2 : ((n + 2 : Nat) : Int) - 2 = n := by omega
  have hw3 : IntKind.i64.wrap ((n : Int) + 2 - 2) = n := by rw [IntKind.wrap_i64]; omega
  have hw4 : IntKind.i64.wrap ((n : Int) + 1) = (n : Int) + 1 := by rw [IntKind.wrap_i64]; omega
  have hw5 : ((n : Int) + 1).toNat = n + 1 := by omega
  have hd : decide ((n : Int) < 0) = false := decide_eq_false (by omega)
  have hi1 : (n : Int) < (n : Int) + 2 := by omega
  have hi2 : n < n + 2 := by omega
  have hi3 : (n : Int) + 1 < (n : Int) + 2 := by omega
  have hi4 : n + 1 < n + 2 := by omega
  have hi5 : 0 ≤ (n : Int) + 1 := by omega
  obtain ⟨hlB, hgb, hlg, hcap, hmax⟩ := hlb
  have HLB := hidden hlB
  have HGB := hidden hgb
  have HLG := hidden hlg
  unfold maxLen at hmax
  clear h hr hJ hJd hJo hJs hB hn
  unfold prtV at HC
  go_enter Tryd.func80, Tryd.ntmps80
  go_wp2
  refine Rl.wp_region_stepsL (R := fun w1 w2 => w1.grownBy w2 row ∧ (J2 w1 → J2 w2)) 14 (Rl.typ (Lbin fc cc g n cap x z y J2)) (fun w1 => StkP w1 B base g cap (X ++ [x, z]) ∧ (J1 w1 ∨ J2 w1) ∧ w.grownBy w1 row) (fun w => ⟨gb_refl w, id⟩) (by kernel_rfl) (by kernel_rfl) (by kernel_rfl) (by kernel_rfl) (by kernel_rfl) (by kernel_rfl) ?mono ?start ?step ?last
  case mono =>
    refine Rl.typ_mono ?_
    simp only [Lbin, List.forall_mem_cons]
    repeat' (first | exact (fun v w w' h _ => h) | (intro p hp; cases hp; done) | exact (fun v w w' h k => ⟨h.1, k.2 h.2⟩) | refine And.intro ?_ ?_)
  case start => exact ⟨H0.out, .inl HJ.out, ⟨rfl, rfl, rfl, Nat.le_refl _, fun _ _ _ => rfl⟩⟩
  case last =>
    intro a1 w1 hs hv hW
    have h20 : a1.tmps.getD 20 undef = .pointer (some ⟨g, n * 9, none⟩) := hv 13 20 (by decide) (by kernel_rfl)
    obtain ⟨h19, hj⟩ : a1.tmps.getD 19 undef = .agg #[.int .u64 (word (y.first) 0), .int .u64 (word (y.first) 1), .int .u64 (word (y.first) 2), .int .u64 (word (y.first) 3), .int .u64 (word (y.last) 0), .int .u64 (word (y.last) 1), .int .u64 (word (y.last) 2), .int .u64 (word (y.last) 3), .bool y.free] ∧ J2 w1 := hv 12 19 (by decide) (by kernel_rfl)
    have h1 : a1.tmps.getD 1 undef = .pointer (some ⟨B, 0, none⟩) := hs.slot 1 (by kernel_rfl)
    have h3 : a1.tmps.getD 3 undef = .int .i64 (n : Int) := hs.slot 3 (by kernel_rfl)
    have hsz : a1.tmps.size = 25 := hs.size
    have hd := hs.defers
    obtain ⟨cur, hc1, hc2, hc3, hc4, hc5⟩ := HT.out w1 hW.1
    have HM := hidden ((Mp.of hW.2.2 (gb_setRow (w := w1) (g := g) (cs := (cur.toList.take (n * 9) ++ (#[.int .u64 (word (y.first) 0), .int .u64 (word (y.first) 1), .int .u64 (word (y.first) 2), .int .u64 (word (y.first) 3), .int .u64 (word (y.last) 0), .int .u64 (word (y.last) 1), .int .u64 (word (y.last) 2), .int .u64 (word (y.last) 3), .bool y.free] : Array Value).toList ++ cur.toList.drop (n * 9 + 9)).toArray))).mb HGB.out (by have := HGB.out; have := HLG.out; omega))
    have HJ2 := hidden (HJO.out _ _ hj (gb_setRow (w := w1) (g := g) (cs := (cur.toList.take (n * 9) ++ (#[.int .u64 (word (y.first) 0), .int .u64 (word (y.first) 1), .int .u64 (word (y.first) 2), .int .u64 (word (y.first) 3), .int .u64 (word (y.last) 0), .int .u64 (word (y.last) 1), .int .u64 (word (y.last) 2), .int .u64 (word (y.last) 3), .bool y.free] : Array Value).toList ++ cur.toList.drop (n * 9 + 9)).toArray)))
    have HLL := hidden (show B < (w1.setRow g (cur.toList.take (n * 9) ++ (#[.int .u64 (word (y.first) 0), .int .u64 (word (y.first) 1), .int .u64 (word (y.first) 2), .int .u64 (word (y.first) 3), .int .u64 (word (y.last) 0), .int .u64 (word (y.last) 1), .int .u64 (word (y.last) 2), .int .u64 (word (y.last) 3), .bool y.free] : Array Value).toList ++ cur.toList.drop (n * 9 + 9)).toArray).heap.size from by
      have := hW.2.2.size
      have := HLB.out
      simp; omega)
    clear hs hv hW hj
    refine wpOp_of_list rfl rfl ?_
    refine wpList_q (K := fun a' w' => a' = a1 ∧ w' = w1.setRow g (cur.toList.take (n * 9) ++ (#[.int .u64 (word (y.first) 0), .int .u64 (word (y.first) 1), .int .u64 (word (y.first) 2), .int .u64 (word (y.first) 3), .int .u64 (word (y.last) 0), .int .u64 (word (y.last) 1), .int .u64 (word (y.last) 2), .int .u64 (word (y.last) 3), .bool y.free] : Array Value).toList ++ cur.toList.drop (n * 9 + 9)).toArray) ?_ ?_
    · intro Q hQ
      refine store_at (g := g) (off := n * 9) (cs := #[.int .u64 (word (y.first) 0), .int .u64 (word (y.first) 1), .int .u64 (word (y.first) 2), .int .u64 (word (y.first) 3), .int .u64 (word (y.last) 0), .int .u64 (word (y.last) 1), .int .u64 (word (y.last) 2), .int .u64 (word (y.last) 3), .bool y.free]) (cur := cur) (t := 72) rfl (ty := 72) (x := .tmp 20) (y := .tmp 19) rfl h20 h19 hc1 9 (by kernel_rfl) rfl hc2 (by kernel_rfl) ?_
      have HQ := hidden hQ
      clear hQ
      generalize w1.setRow g (cur.toList.take (n * 9) ++ (#[.int .u64 (word (y.first) 0), .int .u64 (word (y.first) 1), .int .u64 (word (y.first) 2), .int .u64 (word (y.first) 3), .int .u64 (word (y.last) 0), .int .u64 (word (y.last) 1), .int .u64 (word (y.last) 2), .int .u64 (word (y.last) 3), .bool y.free] : Array Value).toList ++ cur.toList.drop (n * 9 + 9)).toArray = w9 at *
      go_wp2
      exact HQ.out _ _ ⟨rfl, rfl⟩
    · rintro a' w9 ⟨rfl, hw9⟩
      rw [← hw9] at hc3 hc4 hc5 HM HJ2 HLL
      have HS := hidden hc5
      have hl9 := HLL.out
      clear hw9 hc5 hc1 hc2
      obtain ⟨tm, df⟩ := a'
      simp only at hsz h1 h3 hd
      have hz := arr25 hsz
      rw [h1, h3] at hz
      clear h1 h3 h19 h20 hsz
      generalize tm.getD 0 undef = u0 at hz
      generalize tm.getD 2 undef = u2 at hz
      generalize tm.getD 4 undef = u4 at hz
      generalize tm.getD 5 undef = u5 at hz
      generalize tm.getD 6 undef = u6 at hz
      generalize tm.getD 7 undef = u7 at hz
      generalize tm.getD 8 undef = u8 at hz
      generalize tm.getD 9 undef = u9 at hz
      generalize tm.getD 10 undef = u10 at hz
      generalize tm.getD 11 undef = u11 at hz
      generalize tm.getD 12 undef = u12 at hz
      generalize tm.getD 13 undef = u13 at hz
      generalize tm.getD 14 undef = u14 at hz
      generalize tm.getD 15 undef = u15 at hz
      generalize tm.getD 16 undef = u16 at hz
      generalize tm.getD 17 undef = u17 at hz
      generalize tm.getD 18 undef = u18 at hz
      generalize tm.getD 19 undef = u19 at hz
      generalize tm.getD 20 undef = u20 at hz
      generalize tm.getD 21 undef = u21 at hz
      generalize tm.getD 22 undef = u22 at hz
      generalize tm.getD 23 undef = u23 at hz
      generalize tm.getD 24 undef = u24 at hz
      subst hz hd
      go_wp2
      first | go_end0 | (refine bodyPost_end (results_none rfl _ _ _) rfl ?_)
      exact ⟨rfl, HJS.out _ _ HJ2.out, HS.out, HM.out.set HBB.out _⟩
  case step =>
    refine ⟨?_, ?_, ?_, ?_, ?_, ?_, ?_, ?_, ?_, ?_, ?_, ?_, ?_, ?_, trivial⟩
    · change Rl.StepOk _ _ _ _ _ _ _ _
      intro ρ w1 hF hW
      have HW := hidden hW
      clear hW
      have e1 : ρ 1 = .pointer (some ⟨B, 0, none⟩) := hF 1 (by decide)
      clear hF
      obtain ⟨hb, k0, k1, k2, k3, k4, k5, k6, k7, k8, j0, j1, j2, j3, j4, j5, j6, j7, j8⟩ := HF.out w1 HW.out.1
      unfold Rl.Does
      go_simp
      exact ⟨rfl, HW.out, gb_refl _⟩
    · change Rl.StepOk _ _ _ _ _ _ _ _
      intro ρ w1 hF hW
      have HW := hidden hW
      clear hW
      have e3 : ρ 3 = .int .i64 (n : Int) := hF 3 (by decide)
      clear hF
      unfold Rl.Does
      go_simp
      exact ⟨rfl, HW.out, gb_refl _⟩
    · change Rl.StepOk _ _ _ _ _ _ _ _
      intro ρ w1 hF hW
      have HW := hidden hW
      clear hW
      have e0 : ρ 0 = .func (.func fc) #[] cc := hF 0 (by decide)
      clear hF
      unfold Rl.Does
      go_simp
      exact ⟨rfl, HW.out, gb_refl _⟩
    · change Rl.StepOk _ _ _ _ _ _ _ _
      intro ρ w1 hF hW
      have HW := hidden hW
      clear hW
      have e1 : ρ 1 = .pointer (some ⟨B, 0, none⟩) := hF 1 (by decide)
      clear hF
      obtain ⟨hb, k0, k1, k2, k3, k4, k5, k6, k7, k8, j0, j1, j2, j3, j4, j5, j6, j7, j8⟩ := HF.out w1 HW.out.1
      unfold Rl.Does
      go_simp
      exact ⟨rfl, HW.out, gb_refl _⟩
    · change Rl.StepOk _ _ _ _ _ _ _ _
      intro ρ w1 hF hW
      have HW := hidden hW
      clear hW
      have e3 : ρ 3 = .int .i64 (n : Int) := hF 3 (by decide)
      clear hF
      unfold Rl.Does
      go_simp
      exact ⟨rfl, HW.out, gb_refl _⟩
    · change Rl.StepOk _ _ _ _ _ _ _ _
      intro ρ w1 hF hW
      have HW := hidden hW
      clear hW
      have e10 : ρ 10 = .slice (some ⟨g, 0, none⟩) (n + 2) cap := hF 10 (by decide)
      have e11 : ρ 11 = .int .i64 (n : Int) := hF 11 (by decide)
      clear hF
      unfold Rl.Does
      go_simp
      exact ⟨rfl, HW.out, gb_refl _⟩
    · change Rl.StepOk _ _ _ _ _ _ _ _
      intro ρ w1 hF hW
      have HW := hidden hW
      clear hW
      have e12 : ρ 12 = .pointer (some ⟨g, n * 9, none⟩) := hF 12 (by decide)
      clear hF
      obtain ⟨hb, k0, k1, k2, k3, k4, k5, k6, k7, k8, j0, j1, j2, j3, j4, j5, j6, j7, j8⟩ := HF.out w1 HW.out.1
      unfold Rl.Does
      go_simp
      exact ⟨rfl, HW.out, gb_refl _⟩
    · change Rl.StepOk _ _ _ _ _ _ _ _
      intro ρ w1 hF hW
      have HW := hidden hW
      clear hW
      have e1 : ρ 1 = .pointer (some ⟨B, 0, none⟩) := hF 1 (by decide)
      clear hF
      obtain ⟨hb, k0, k1, k2, k3, k4, k5, k6, k7, k8, j0, j1, j2, j3, j4, j5, j6, j7, j8⟩ := HF.out w1 HW.out.1
      unfold Rl.Does
      go_simp
      exact ⟨rfl, HW.out, gb_refl _⟩
    · change Rl.StepOk _ _ _ _ _ _ _ _
      intro ρ w1 hF hW
      have HW := hidden hW
      clear hW
      have e3 : ρ 3 = .int .i64 (n : Int) := hF 3 (by decide)
      clear hF
      unfold Rl.Does
      go_simp
      exact ⟨rfl, HW.out, gb_refl _⟩
    · change Rl.StepOk _ _ _ _ _ _ _ _
      intro ρ w1 hF hW
      have HW := hidden hW
      clear hW
      have e15 : ρ 15 = .int .i64 (n : Int) := hF 15 (by decide)
      clear hF
      unfold Rl.Does
      go_simp
      exact ⟨rfl, HW.out, gb_refl _⟩
    · change Rl.StepOk _ _ _ _ _ _ _ _
      intro ρ w1 hF hW
      have HW := hidden hW
      clear hW
      have e14 : ρ 14 = .slice (some ⟨g, 0, none⟩) (n + 2) cap := hF 14 (by decide)
      have e16 : ρ 16 = .int .i64 ((n : Int) + 1) := hF 16 (by decide)
      clear hF
      unfold Rl.Does
      go_simp
      exact ⟨rfl, HW.out, gb_refl _⟩
    · change Rl.StepOk _ _ _ _ _ _ _ _
      intro ρ w1 hF hW
      have HW := hidden hW
      clear hW
      have e17 : ρ 17 = .pointer (some ⟨g, (n + 1) * 9, none⟩) := hF 17 (by decide)
      clear hF
      obtain ⟨hb, k0, k1, k2, k3, k4, k5, k6, k7, k8, j0, j1, j2, j3, j4, j5, j6, j7, j8⟩ := HF.out w1 HW.out.1
      unfold Rl.Does
      go_simp
      exact ⟨rfl, HW.out, gb_refl _⟩
    · change Rl.StepOk _ _ _ _ _ _ _ _
      intro ρ w1 hF hW
      have HW := hidden hW
      clear hW
      have e9 : ρ 9 = .func (.func fc) #[] cc := hF 9 (by decide)
      have e13 : ρ 13 = .agg #[.int .u64 (word (x.first) 0), .int .u64 (word (x.first) 1), .int .u64 (word (x.first) 2), .int .u64 (word (x.first) 3), .int .u64 (word (x.last) 0), .int .u64 (word (x.last) 1), .int .u64 (word (x.last) 2), .int .u64 (word (x.last) 3), .bool x.free] := hF 13 (by decide)
      have e18 : ρ 18 = .agg #[.int .u64 (word (z.first) 0), .int .u64 (word (z.first) 1), .int .u64 (word (z.first) 2), .int .u64 (word (z.first) 3), .int .u64 (word (z.last) 0), .int .u64 (word (z.last) 1), .int .u64 (word (z.last) 2), .int .u64 (word (z.last) 3), .bool z.free] := hF 18 (by decide)
      clear hF
      unfold Rl.Does
      go_simp
      refine (HC.out _ HW.out.2.1 HW.out.1 HW.out.2.2.size).mono ?_
      rintro e w2 ⟨rfl, hj, hg⟩
      exact ⟨_, rfl, ⟨rfl, hj⟩, ⟨HW.out.1.row hg HR.out, .inr hj, gb_trans HW.out.2.2 hg⟩, hg, fun _ => hj⟩
    · change Rl.StepOk _ _ _ _ _ _ _ _
      intro ρ w1 hF hW
      have HW := hidden hW
      clear hW
      have e7 : ρ 7 = .slice (some ⟨g, 0, none⟩) (n + 2) cap := hF 7 (by decide)
      have e8 : ρ 8 = .int .i64 (n : Int) := hF 8 (by decide)
      clear hF
      unfold Rl.Does
      go_simp
      exact ⟨rfl, HW.out, gb_refl _⟩
end Go.Proofs.YtbokhofdgdcpdaaDoor
