/- FaStk, SetSpan, put together. -/
import Derived.Test.YthkboclooplpeaaGreatDoorRf14
import Derived.Test.YthkboclooplpeaaGreatDoorRf05
import Derived.RangeFuncBox
import Derived.Laws.MakeOwn
import Derived.Lib.SmallJoins
import Derived.Test.YthkboclooplpeaaGreatDoorRf10
/- A boxed slice that is put to and taken from at its end, as evaluate keeps it; High. -/
namespace Go.Proofs.YthkboclooplpeaaGreatDoor
open Go.RowKit Go.Lib Go.Joins

section
variable {w w' w'' : World} {row : Option Nat}
theorem gb_trans (h : w.grownBy w' row) (k : w'.grownBy w'' row) : w.grownBy w'' row :=
  ⟨k.os.trans h.os, k.tape.trans h.tape, k.output.trans h.output, Nat.le_trans h.size k.size, fun i hi hr => (k.block i (Nat.lt_of_lt_of_le hi h.size) hr).trans (h.block i hi hr)⟩
theorem gb_below (h : Below w.heap.size w w') : w.grownBy w' row := ⟨h.os, h.tape, h.output, h.size, fun k hk _ => h.block k hk⟩
theorem gb_alloc (o : Obj) : w.grownBy (w.alloc o) row := World.grownBy_alloc w o row
theorem gb_drew : w.grownBy w.drew row := ⟨rfl, rfl, rfl, Nat.le_refl _, fun _ _ _ => rfl⟩
theorem gb_set (b q : Nat) (v : Value) : w.grownBy (w.setCell ⟨b, q, none⟩ v) (some b) := ⟨rfl, rfl, rfl, by simp [World.setCell], fun k _ hk => heap_setCell_other _ _ _ _ fun e => hk (by rw [e])⟩
theorem gb_to_below {B : Nat} {a : World} (h : Below B a w) (hB : B ≤ w.heap.size) (hg : w.grownBy w' row) (hr : ∀ j, row = some j → B ≤ j) : Below B a w' := h.grown hg hB hr
end
/-- block B holds a slice, in blocks from base on, of n elements -/
def StkV (w : World) (SE E : TypeId) (k B base n : Nat) (xs : List Value) : Prop := ∃ g cap, Boxed w B SE (.slice (some ⟨g, 0, none⟩) n cap) ∧ w.ownsRow base E k (.slice (some ⟨g, 0, none⟩) n cap) n xs
section
variable {w w' : World} {SE E : TypeId} {k B base n : Nat} {xs : List Value}
theorem StkV.below (h : StkV w SE E k B base n xs) (hb : Below w.heap.size w w') : StkV w' SE E k B base n xs := by
  obtain ⟨g, cap, h1, h2⟩ := h
  exact ⟨g, cap, (hb.block B h1.lt).trans h1, h2.kept (row := none) ⟨hb.os, hb.tape, hb.output, hb.size, fun k hk _ => hb.block k hk⟩ (.inr (by simp [Value.ownBlock]))⟩
theorem StkV.alloc (h : StkV w SE E k B base n xs) (o : Obj) : StkV (w.alloc o) SE E k B base n xs := h.below ((Below.refl _ _).alloc (Nat.le_refl _) o)
theorem StkV.drew (h : StkV w SE E k B base n xs) : StkV w.drew SE E k B base n xs := h
theorem StkV.lt (h : StkV w SE E k B base n xs) : B < w.heap.size := by
  obtain ⟨g, cap, h1, h2⟩ := h
  exact h1.lt
/-- the last one is taken off -/
theorem StkV.pop {x : List Value} {g cap : Nat} (hx : xs.length = n * k) (h1 : Boxed w B SE (.slice (some ⟨g, 0, none⟩) (n + 1) cap)) (h2 : w.ownsRow base E k (.slice (some ⟨g, 0, none⟩) (n + 1) cap) (n + 1) (xs ++ x)) (hSE : SE ≠ E) :
    StkV (w.setCell ⟨B, 0, none⟩ (.slice (some ⟨g, 0, none⟩) n cap)) SE E k B base n xs := by
  have hne := h1.not_row hSE h2
  refine ⟨g, cap, h1.set _, hx, .inr ?_⟩
  rcases h2.2 with ⟨h, _⟩ | ⟨g', cap', cur, h, hb, hg, hn, hm, hs, ht⟩
  · cases h
  · simp only [Value.slice.injEq, Option.some.injEq, Addr.mk.injEq, and_true, true_and] at h
    obtain ⟨rfl, rfl⟩ := h
    refine ⟨g, cap, cur, rfl, hb, ?_, by omega, hm, hs, ?_⟩
    · rw [heap_setCell_other _ _ _ _ (show g ≠ B from fun e => hne (by simp [Value.ownBlock, e]))]
      exact hg
    · have e : cur.toList.take (n * k) = (cur.toList.take ((n + 1) * k)).take (n * k) := by
        rw [List.take_take]
        congr 1
        rw [Nat.add_mul]
        omega
      rw [e, ht, ← hx, List.take_left]
/-- one is put -/
theorem StkV.push {ys : List Value} {g cap g' cap' m : Nat} {w1 : World} (h1 : Boxed w B SE (.slice (some ⟨g, 0, none⟩) n cap)) (h2 : w.ownsRow base E k (.slice (some ⟨g, 0, none⟩) n cap) n xs) (hSE : SE ≠ E)
    (hg : w.grownBy w1 (Value.slice (some ⟨g, 0, none⟩) n cap).ownBlock) (hown : w1.ownsRow base E k (.slice (some ⟨g', 0, none⟩) m cap') m ys) : StkV (w1.setCell ⟨B, 0, none⟩ (.slice (some ⟨g', 0, none⟩) m cap')) SE E k B base m ys := by
  have hne := h1.not_row hSE h2
  have h3 := h1.kept hg hne
  have hne2 := h3.not_row hSE hown
  exact ⟨g', cap', h3.set _, hown.kept (gb_set B 0 _) (.inr fun e => hne2 e.symm)⟩
end
theorem one_news (w : World) (x : Value) (t : TypeId) : ∀ j u, [x][j]? = some u → (w.alloc (.cells #[x] t)).cell? ((⟨w.heap.size, 0, none⟩ : Addr).add j) = some u := fun j u hj => by
  match j, hj with
  | 0, hj =>
    simp only [List.getElem?_cons_zero, Option.some.injEq] at hj
    subst hj
    rw [Addr.add_lit, World.cell?_alloc_at _ _ _ _ rfl]
    rfl
/-- one element is put behind the row -/
theorem app_elem {w : World} {ops : Array Oper} {rest : List Oper} {o : Oper} {a : Act} {Q : Exit → Act → World → Prop} (hgd : o.guard = none) (s x : Operand) {SE E : TypeId} {k bytes : Nat} {z : Value}
    (ho : o.op = .call { callee := .builtin .append, args := #[s, x], argTypes := #[SE, SE] }) (ht : Tryz.prog.underlying SE = some (.slice E)) (hinfo : (Tryz.prog.info? E).map (fun i => (i.zero, i.size, i.bytes)) = some (some z, k, bytes)) (hzs : z.cells.size = k) (hk : 0 < k) (hby : bytes ≤ 1000)
    {base xb n g cap : Nat} {xs ys : List Value} (hs : a.eval s = .slice (some ⟨g, 0, none⟩) n cap) (hown : w.ownsRow base E k (.slice (some ⟨g, 0, none⟩) n cap) n xs) (hx : a.eval x = .slice (some ⟨xb, 0, none⟩) 1 1)
    (hxb : w.heap[xb]? = some (.cells ys.toArray E)) (hys : ys.length = k) (h1 : ∀ u ∈ ys, u.oneCell' = true) (hn2 : n ≤ 100000) (hb0 : base ≤ w.heap.size)
    (h : ∀ g' c' w', w'.ownsRow base E k (.slice (some ⟨g', 0, none⟩) (n + 1) c') (n + 1) (xs ++ ys) → w.grownBy w' (some g) → wpList Tryz.prog ops Q rest (a.put o.dst (.slice (some ⟨g', 0, none⟩) (n + 1) c')) w') : wpList Tryz.prog ops Q (o :: rest) a w := by
  obtain ⟨i0, hi, hz0, hz1, hz2⟩ := info_parts hinfo
  refine wpList_append_own w hgd s x SE ho base E i0 _ k bytes ht hi hz0 hz1 hz2 hzs hk _ n xs hs hown ⟨xb, 0, none⟩ 1 1 ys hx (by omega) (fun j u hj => ?_) h1 (by unfold maxLen; omega) ?_ hb0 fun v' w' h3 h4 _ => ?_
  · rw [Addr.add_lit, Nat.zero_add, cell_of_row w xb _ _ _ _ hxb]
    simpa using hj
  · have h5 : (n + 1) * bytes ≤ 100001 * 1000 := Nat.mul_le_mul (by omega) hby
    omega
  · rcases ownsRow_forms h3 with ⟨_, h0⟩ | ⟨g', c', rfl⟩
    · omega
    · exact h g' c' w' h3 h4
theorem cells_flat {α : Type} (f : α → List Value) (k : Nat) (hf : ∀ x, (f x).length = k) : ∀ l : List α, (l.flatMap f).length = l.length * k
  | [] => by simp
  | x :: r => by
    rw [List.flatMap_cons, List.length_append, hf x, cells_flat f k hf r, List.length_cons, Nat.add_mul]
    omega

set_option maxRecDepth 100000 in
theorem high_slX {C : Nat → Prop} {v : Value} {L : List Stp} {w : World} (h : SlX C w v L) (hC : ∀ b, C b → b < w.heap.size) :
    Calls Tryz.prog 79 #[v] w fun e w' => e = .returned (.int .i64 (measV L).1) ∧ Below w.heap.size w w' := by
  obtain ⟨a, cap, rfl, h1, h2, _, hS⟩ := h
  have H := hidden (measure_calls _ _ _ _ _ h1 h2 hS hC)
  generalize measV L = r at *
  clear h1 h2 hS hC
  go_enter Tryz.func79, Tryz.ntmps79
  go_wp2_with fail
  refine H.out.mono ?_
  rintro e w' ⟨rfl, hb⟩
  go_wp2
  go_ret
  exact ⟨rfl, hb⟩
theorem high_range {L : List Stp} (h : (measV L).2 = 0) : ∃ m : Nat, (measV L).1 = m ∧ m ≤ 512 := by
  obtain ⟨h1, h2⟩ := meas_expr h
  have h3 := expr_meas h2 h1
  have h4 : ∀ (l : List Stp) (p q : Int), p ≤ 512 - l.length → q ≤ 512 → Goes l p → peak l p q ≤ 512 := by
    intro l
    induction l with
    | nil => intro p q _ hq _; exact hq
    | cons s r ih =>
      intro p q hp hq hg
      simp only [List.length_cons] at hp
      obtain ⟨⟨hs, _⟩, hs2, hr⟩ := hg
      exact ih _ _ (by omega) (by omega) hr
  have h5 := h4 L 0 0 (by omega) (by omega) h2.1
  have h6 := peak_ge L 0 0
  rw [h3]
  exact ⟨(peak L 0 0).toNat, by simp only; omega, by omega⟩
end Go.Proofs.YthkboclooplpeaaGreatDoor

/- Contract of the program's Span. -/
namespace Go.Proofs.YthkboclooplpeaaGreatDoor
open Go.RowKit

theorem SetAt.one {w : World} {B : Nat} {f g : Nat → Bool} (h : SetAt w B f) (i : Nat) (hi : i < 4) {v : Int} (hv : v = word g i) (hj : ∀ j, j ≠ i → word f j = word g j) :
    SetAt (w.setCell ⟨B, i, none⟩ (.int .u64 v)) B g := by
  subst hv
  have h2 := heap_setCell_same w B i _ 33 (.int .u64 (word g i)) h
  unfold SetAt
  rw [h2]
  match i, hi with
  | 0, _ => simp [hj 1 (by decide), hj 2 (by decide), hj 3 (by decide)]
  | 1, _ => simp [hj 0 (by decide), hj 2 (by decide), hj 3 (by decide)]
  | 2, _ => simp [hj 0 (by decide), hj 1 (by decide), hj 3 (by decide)]
  | 3, _ => simp [hj 0 (by decide), hj 1 (by decide), hj 2 (by decide)]
theorem SetAt.other {w : World} {B b i : Nat} {f : Nat → Bool} (h : SetAt w B f) (hne : B ≠ b) (v : Value) : SetAt (w.setCell ⟨b, i, none⟩ v) B f := by
  unfold SetAt at h ⊢
  rw [heap_setCell_other _ _ _ _ hne, h]
theorem SetAt.drew {w : World} {B : Nat} {f : Nat → Bool} (h : SetAt w B f) : SetAt w.drew B f := h
theorem or_one (f : Nat → Bool) (n : Int) (h0 : 0 ≤ n) (i : Nat) (hi : n.toNat / 64 = i) : bits .or .u64 (word f i) (IntKind.u64.wrap (2 ^ (n % 64).toNat)) = word (fOr f (fOne n.toNat)) i := by
  rw [pow_bit n h0 i hi, word_or]
theorem spn_step {L b : Int} (h0 : 0 ≤ L) (hb : L ≤ b) (n : Nat) : fOr (fSpan L (b - 1)) (fOne b.toNat) n = fSpan L (b + 1 - 1) n := by
  simp only [fOr, fSpan, fOne]
  rw [Bool.eq_iff_iff]
  simp
  omega

def lowE (lo : Int) : Int := max lo 0
def highE (hi : Int) : Int := min hi 255
theorem fin_span (lo hi b : Int) (_h1 : lowE lo ≤ b) (h2 : ¬ b ≤ highE hi) (h3 : b ≤ highE hi + 1 ∨ b = lowE lo) (n : Nat) (hn : n < 256) : fSpan (lowE lo) (b - 1) n = fSpan lo hi n := by
  unfold lowE highE at *
  simp only [fSpan]
  rw [Bool.eq_iff_iff]
  simp
  omega
theorem none_span (L : Int) (n : Nat) : fNone n = fSpan L (L - 1) n := by
  simp only [fSpan, fNone]
  rw [Bool.eq_iff_iff]
  simp
  omega

set_option maxRecDepth 100000 in
theorem span_calls (lo hi : Int) (w : World) :
    Calls Tryz.prog 31 #[.int .i64 lo, .int .i64 hi] w fun e w' => e = .returned (.agg #[.int .u64 (word (fSpan lo hi) 0), .int .u64 (word (fSpan lo hi) 1), .int .u64 (word (fSpan lo hi) 2), .int .u64 (word (fSpan lo hi) 3)]) ∧ Below w.heap.size w w' := by
  have l0 : 0 ≤ lowE lo := by unfold lowE; omega
  have h0 : highE hi ≤ 255 := by unfold highE; omega
  have cl : (lo < 0 ∧ lowE lo ≤ 0) ∨ (0 ≤ lo ∧ lo ≤ lowE lo ∧ lowE lo ≤ lo) := by unfold lowE; omega
  have ch : (255 < hi ∧ 255 ≤ highE hi) ∨ (hi ≤ 255 ∧ hi ≤ highE hi ∧ highE hi ≤ hi) := by unfold highE; omega
  have HF := hidden (fin_span lo hi)
  rcases cl with ⟨p1, p2⟩ | ⟨p1, p2, p3⟩ <;> rcases ch with ⟨q1, q2⟩ | ⟨q1, q2, q3⟩
  all_goals
    go_enter Tryz.func31, Tryz.ntmps31
    go_wp2
    go_loopw [6] (fun i wr => ∃ b : Int, lowE lo ≤ b ∧ (b ≤ highE hi + 1 ∨ b = lowE lo) ∧ i = .int .i64 b ∧ SetAt wr w.heap.size fNone ∧ SetAt wr (w.heap.size + 1) (fSpan (lowE lo) (b - 1)) ∧ Below w.heap.size w wr) (fun i _ => (256 - intOf i).toNat)
    case atStart =>
      exact ⟨_, by omega, by omega, rfl, (new2 w).1, (new2 w).2.congr fun n _ => by rw [none_span (lowE lo)]; congr 1; omega, by go_grown⟩
    case round =>
      obtain ⟨b, g1, g2, rfl, hA, hS, hb⟩ := hrel
      have HS := hidden hS
      have HA := hidden hA
      by_cases hlt : b ≤ highE hi
      · obtain ⟨c0, c1, c2, c3, f0, f1, f2, f3⟩ := hS.facts
        clear hS hA
        have HO := hidden (or_one (fSpan (lowE lo) (b - 1)) b (by omega))
        have HX := hidden (or_other (fSpan (lowE lo) (b - 1)) b.toNat)
        have hc : (b / 64).toNat = 0 ∨ (b / 64).toNat = 1 ∨ (b / 64).toNat = 2 ∨ (b / 64).toNat = 3 := by omega
        rcases hc with hq | hq | hq | hq
        all_goals
          go_wp2
          go_region
          go_wp2
          refine ⟨⟨b + 1, by omega, by omega, rfl, (HA.out.other (by omega) _).drew, ((HS.out.one _ (by decide) (HO.out _ (by omega)) fun j hj => HX.out j (by omega)).congr fun n _ => spn_step l0 g1 n).drew, (hb.setCell (by simp) _).drew⟩, by simp [intOf]; omega⟩
      · obtain ⟨c0, c1, c2, c3, f0, f1, f2, f3⟩ := hS.facts
        obtain ⟨d0, d1, d2, d3, g0, g3, g4, g5⟩ := hA.facts
        clear hS hA
        go_wp2
        exact ret_setAt Tryz.results31 rfl rfl HA.out.stored (HF.out b g1 (by omega) g2) ⟨rfl, below_cells hb _ (by omega) _ _ _ _⟩
end Go.Proofs.YthkboclooplpeaaGreatDoor
