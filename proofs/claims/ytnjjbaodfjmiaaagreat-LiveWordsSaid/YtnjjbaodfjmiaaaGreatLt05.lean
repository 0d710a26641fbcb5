/- SetOps, SetLoops, SetTwo, FaRdA, put together. -/
import Derived.Test.YtnjjbaodfjmiaaaGreatLt02
import Derived.Handy
import Derived.Deep.RegionHeld3
import Derived.Test.YtnjjbaodfjmiaaaGreatLt01
import Derived.Test.YtnjjbaodfjmiaaaGreatLt04
/- Contracts of the set functions without a search: Has, One, with, And, Minus, Not. -/
namespace Go.Proofs.YtnjjbaodfjmiaaaGreat
open Go.RowKit

theorem has_res (f : Nat → Bool) (n : Int) (h0 : 0 ≤ n) : ((word f (n / 64).toNat : Int) / 2 ^ (n % 64).toNat % 2 == 1) = f n.toNat := by
  obtain ⟨k, rfl⟩ := Int.eq_ofNat_of_zero_le h0
  have e1 : ((k : Int) / 64).toNat = k / 64 := by omega
  have e2 : ((k : Int) % 64).toNat = k % 64 := by omega
  rw [e1, e2, word_has f _ _ (Nat.mod_lt _ (by decide)), Nat.div_add_mod, Int.toNat_natCast]
  cases f k <;> rfl
theorem has_res2 (f : Nat → Bool) (n : Int) (h0 : 0 ≤ n) : (((word f (n / 64).toNat : Int) / 2 ^ (n % 64).toNat).tmod 2 == 1) = f n.toNat := by
  rw [← has_res f n h0]
  have e : (word f (n / 64).toNat : Int) / 2 ^ (n % 64).toNat = ((word f (n / 64).toNat / 2 ^ (n % 64).toNat : Nat) : Int) := by simp
  rw [e, Int.tmod_eq_emod_of_nonneg (Int.natCast_nonneg _)]

theorem rhas_calls (f : Nat → Bool) (n : Int) (w : World) (h0 : 0 ≤ n) (h1 : n < 256) :
    Calls Tryz.prog 109 #[(.agg #[.int .u64 (word (f) 0), .int .u64 (word (f) 1), .int .u64 (word (f) 2), .int .u64 (word (f) 3)]), .int .u8 n] w fun e w' => e = .returned (.bool (f n.toNat)) ∧ Below w.heap.size w w' := by
  have hx := at4 (word f) (n / 64).toNat (by omega)
  go_enter Tryz.func109, Tryz.ntmps109
  go_wp2
  go_ret
  exact ⟨ret_b (has_res2 f n h0), (Below.refl _ _).alloc (Nat.le_refl _) _⟩

/-- a set as it is returned, out of its four words -/
theorem ret_set {a b c d : Int} {f : Nat → Bool} (ha : a = word f 0) (hb : b = word f 1) (hc : c = word f 2) (hd : d = word f 3) :
    Ending.returned (.agg #[.int .u64 a, .int .u64 b, .int .u64 c, .int .u64 d]) = .returned (.agg #[.int .u64 (word (f) 0), .int .u64 (word (f) 1), .int .u64 (word (f) 2), .int .u64 (word (f) 3)]) := by
  rw [ha, hb, hc, hd]

theorem or_other (f : Nat → Bool) (n i : Nat) (h : n / 64 ≠ i) : word f i = word (fOr f (fOne n)) i :=
  word_congr i fun j hj => by
    simp only [fOr, fOne]
    have : decide (64 * i + j = n) = false := by simp; omega
    rw [this, Bool.or_false]

theorem with_calls (f : Nat → Bool) (n : Int) (w : World) (h0 : 0 ≤ n) (h1 : n < 256) :
    Calls Tryz.prog 123 #[(.agg #[.int .u64 (word (f) 0), .int .u64 (word (f) 1), .int .u64 (word (f) 2), .int .u64 (word (f) 3)]), .int .i64 n] w fun e w' => e = .returned (.agg #[.int .u64 (word (fOr f (fOne n.toNat)) 0), .int .u64 (word (fOr f (fOne n.toNat)) 1), .int .u64 (word (fOr f (fOne n.toNat)) 2), .int .u64 (word (fOr f (fOne n.toNat)) 3)]) ∧ Below w.heap.size w w' := by
  have HB := hidden (pow_bit n h0)
  have HO := hidden (or_other f n.toNat)
  have HW := hidden (word_or f (fOne n.toNat))
  have hc : (n / 64).toNat = 0 ∨ (n / 64).toNat = 1 ∨ (n / 64).toNat = 2 ∨ (n / 64).toNat = 3 := by omega
  rcases hc with hq | hq | hq | hq
  all_goals
    go_enter Tryz.func123, Tryz.ntmps123
    go_wp2
    go_returns
    refine ⟨ret_set ?_ ?_ ?_ ?_, by go_grown⟩
  all_goals first | (rw [← HO.out _ (by omega)]; done) | exact congrArg _ (HO.out _ (by omega)) | (rw [HB.out _ (show n.toNat / 64 = 0 by omega)]; exact HW.out _) | (rw [HB.out _ (show n.toNat / 64 = 1 by omega)]; exact HW.out _) | (rw [HB.out _ (show n.toNat / 64 = 2 by omega)]; exact HW.out _) | (rw [HB.out _ (show n.toNat / 64 = 3 by omega)]; exact HW.out _)

end Go.Proofs.YtnjjbaodfjmiaaaGreat

/- Contracts of the set functions that go over all bytes, or over a list of sets. -/
namespace Go.Proofs.YtnjjbaodfjmiaaaGreat
open Go.RowKit

/-- block B is an array of four words, with f in it -/
def SetAt (w : World) (B : Nat) (f : Nat → Bool) : Prop := w.heap[B]? = some (.cells #[.int .u64 (word (f) 0), .int .u64 (word (f) 1), .int .u64 (word (f) 2), .int .u64 (word (f) 3)] 103 (0, 0))
theorem SetAt.facts {w : World} {B : Nat} {f : Nat → Bool} (h : SetAt w B f) :
    w.cell? ⟨B, 0, none⟩ = some (.int .u64 (word f 0)) ∧ w.cell? ⟨B, 1, none⟩ = some (.int .u64 (word f 1)) ∧ w.cell? ⟨B, 2, none⟩ = some (.int .u64 (word f 2)) ∧ w.cell? ⟨B, 3, none⟩ = some (.int .u64 (word f 3)) ∧
    w.frozen? ⟨B, 0, none⟩ = false ∧ w.frozen? ⟨B, 1, none⟩ = false ∧ w.frozen? ⟨B, 2, none⟩ = false ∧ w.frozen? ⟨B, 3, none⟩ = false :=
  ⟨cell_of_row w B 0 _ _ _ h, cell_of_row w B 1 _ _ _ h, cell_of_row w B 2 _ _ _ h, cell_of_row w B 3 _ _ _ h,
    frozen_of_row w B 0 _ _ h, frozen_of_row w B 1 _ _ h, frozen_of_row w B 2 _ _ h, frozen_of_row w B 3 _ _ h⟩
theorem SetAt.lt {w : World} {B : Nat} {f : Nat → Bool} (h : SetAt w B f) : B < w.heap.size := by
  rcases Nat.lt_or_ge B w.heap.size with hlt | hge
  · exact hlt
  · unfold SetAt at h
    rw [Array.getElem?_eq_none hge] at h
    cases h
theorem SetAt.below {w w' : World} {B : Nat} {f : Nat → Bool} (h : SetAt w B f) (hb : Below w.heap.size w w') : SetAt w' B f :=
  (hb.block B h.lt).trans h
theorem SetAt.new (w : World) (f : Nat → Bool) : SetAt (w.alloc (.cells #[.int .u64 (word (f) 0), .int .u64 (word (f) 1), .int .u64 (word (f) 2), .int .u64 (word (f) 3)] 103)) w.heap.size f := heap_alloc_new w _
theorem SetAt.stored {w : World} {B : Nat} {f g : Nat → Bool} (h : SetAt w B f) :
    SetAt ((((w.setCell ⟨B, 0, none⟩ (.int .u64 (word g 0))).setCell ⟨B, 1, none⟩ (.int .u64 (word g 1))).setCell ⟨B, 2, none⟩ (.int .u64 (word g 2))).setCell ⟨B, 3, none⟩ (.int .u64 (word g 3))) B g :=
  heap_setCell_same _ B 3 _ _ _ (heap_setCell_same _ B 2 _ _ _ (heap_setCell_same _ B 1 _ _ _ (heap_setCell_same _ B 0 _ _ _ h)))
theorem SetAt.congr {w : World} {B : Nat} {f g : Nat → Bool} (h : SetAt w B f) (e : ∀ n, n < 256 → f n = g n) : SetAt w B g := by
  unfold SetAt at h ⊢
  rw [h, word_ext e 0 (by decide), word_ext e 1 (by decide), word_ext e 2 (by decide), word_ext e 3 (by decide)]

theorem below_cells {B : Nat} {a w : World} (h : Below B a w) (b : Nat) (hb : B ≤ b) (v0 v1 v2 v3 : Value) :
    Below B a ((((w.setCell ⟨b, 0, none⟩ v0).setCell ⟨b, 1, none⟩ v1).setCell ⟨b, 2, none⟩ v2).setCell ⟨b, 3, none⟩ v3) :=
  (((h.setCell hb _).setCell hb _).setCell hb _).setCell hb _
theorem with_nat (f : Nat → Bool) (k : Nat) (w : World) (h : k < 256) :
    Calls Tryz.prog 123 #[(.agg #[.int .u64 (word (f) 0), .int .u64 (word (f) 1), .int .u64 (word (f) 2), .int .u64 (word (f) 3)]), .int .i64 k] w fun e w' => e = .returned (.agg #[.int .u64 (word (fOr f (fOne k)) 0), .int .u64 (word (fOr f (fOne k)) 1), .int .u64 (word (fOr f (fOne k)) 2), .int .u64 (word (fOr f (fOne k)) 3)]) ∧ Below w.heap.size w w' := by
  have := with_calls f k w (by omega) (by omega)
  rwa [Int.toNat_natCast] at this
theorem zeros (f : Nat → Bool) (hf : ∀ i, word f i = 0) : (#[.int .u64 0, .int .u64 0, .int .u64 0, .int .u64 0] : Array Value) = #[.int .u64 (word (f) 0), .int .u64 (word (f) 1), .int .u64 (word (f) 2), .int .u64 (word (f) 3)] := by
  simp [hf]
theorem zeros_none : (#[.int .u64 0, .int .u64 0, .int .u64 0, .int .u64 0] : Array Value) = #[.int .u64 (word (fNone) 0), .int .u64 (word (fNone) 1), .int .u64 (word (fNone) 2), .int .u64 (word (fNone) 3)] := zeros _ word_none
theorem ret_setAt {fn : Func} {R : Ending → World → Prop} {a : Act} {w : World} {B p : Nat} {f g : Nat → Bool} (h : fn.results = #[.cell p 103]) (hp : a.tmps.getD p undef = .pointer (some ⟨B, 0, none⟩))
    (hd : a.defers = []) (hS : SetAt w B f) (e : ∀ n, n < 256 → f n = g n) (hR : R (.returned (.agg #[.int .u64 (word (g) 0), .int .u64 (word (g) 1), .int .u64 (word (g) 2), .int .u64 (word (g) 3)])) w) : bodyPost Tryz.prog fn R .ret a w :=
  bodyPost_ret (results_cell_row h _ w B 103 _ (0, 0) _ hp (hS.congr e) Tryz.underlying103 rfl (by kernel_rfl)) hd hR

end Go.Proofs.YtnjjbaodfjmiaaaGreat

/- Contracts of the reference's functions on two sets, on a list of sets, and of its Not. -/
namespace Go.Proofs.YtnjjbaodfjmiaaaGreat
open Go.RowKit

theorem rone_calls (k : Nat) (w : World) (h : k < 256) :
    Calls Tryz.prog 117 #[.int .u8 k] w fun e w' => e = .returned (.agg #[.int .u64 (word (fOne k) 0), .int .u64 (word (fOne k) 1), .int .u64 (word (fOne k) 2), .int .u64 (word (fOne k) 3)]) ∧ Below w.heap.size w w' := by
  have hw := fun w => with_nat fNone k w h
  simp only [word_none] at hw
  have HW := hidden hw
  clear hw
  go_enter Tryz.func117, Tryz.ntmps117
  go_wp2_with fail
  refine (HW.out _).mono ?_
  rintro e w' ⟨rfl, hb1⟩
  have hS := (SetAt.new w fNone).below (by
    rw [zeros_none] at hb1
    exact hb1)
  obtain ⟨c0, c1, c2, c3, f0, f1, f2, f3⟩ := hS.facts
  have HS := hidden hS
  have HB := hidden (below_then ((Below.refl w.heap.size w).alloc (Nat.le_refl _) _) (by simp) hb1)
  clear hS hb1
  go_wp2
  exact ret_setAt Tryz.results117 rfl rfl HS.out.stored (fun n _ => by simp [fOr, fNone]) ⟨rfl, below_cells HB.out _ (by omega) _ _ _ _⟩

theorem rhas_nat (f : Nat → Bool) (k : Nat) (w : World) (h1 : k < 256) :
    Calls Tryz.prog 109 #[(.agg #[.int .u64 (word (f) 0), .int .u64 (word (f) 1), .int .u64 (word (f) 2), .int .u64 (word (f) 3)]), .int .u8 k] w fun e w' => e = .returned (.bool (f k)) ∧ Below w.heap.size w w' := by
  have := rhas_calls f k w (by omega) (by omega)
  rwa [Int.toNat_natCast] at this

theorem SetAt.alloc {w : World} {B : Nat} {f : Nat → Bool} (h : SetAt w B f) (o : Obj) : SetAt (w.alloc o) B f := (heap_alloc_old w o h.lt).trans h
theorem SetAt.newAt (w : World) (f : Nat → Bool) (B : Nat) (hB : w.heap.size = B) : SetAt (w.alloc (.cells #[.int .u64 (word (f) 0), .int .u64 (word (f) 1), .int .u64 (word (f) 2), .int .u64 (word (f) 3)] 103)) B f := by
  subst hB
  exact SetAt.new w f
end Go.Proofs.YtnjjbaodfjmiaaaGreat

/- The reference's reader: rows of lists of steps; an atom of one byte. -/
namespace Go.Proofs.YtnjjbaodfjmiaaaGreat
open Go.RowKit Go.Lib Go.Joins

theorem rset_fn (f : Nat → Bool) (w : World) : Calls Tryz.prog 106 #[(.agg #[.int .u64 (word (f) 0), .int .u64 (word (f) 1), .int .u64 (word (f) 2), .int .u64 (word (f) 3)])] w (RetX w [sStp f]) := by
  go_enter Tryz.func106, Tryz.ntmps106
  go_wp2
  go_ret
  exact ⟨_, rfl, row_one _ (sStp f) _ (by simp) _ (by simp), by go_grown⟩
theorem rowX_slice {w : World} {base : Nat} {v : Value} {L : List Stp} (h : RowX w base v L) : ∃ a l c, v = .slice a l c := by
  rcases ownsRow_forms h with ⟨rfl, _⟩ | ⟨g, cap, rfl⟩
  · exact ⟨_, _, _, rfl⟩
  · exact ⟨_, _, _, rfl⟩
theorem infoSl : (Tryz.prog.info? 61).map (fun i => (i.zero, i.size, i.bytes)) = some (some (.slice none 0 0), 1, 24) := by kernel_rfl
def Typed (w : World) (b : Nat) : Prop := ∃ cur, w.heap[b]? = some (.cells cur 129 (0, 0))
theorem RowX.typed {w : World} {base : Nat} {v : Value} {L : List Stp} (h : RowX w base v L) : SlX (Typed w) w v L := by
  have h' := h
  obtain ⟨_, ⟨rfl, h1⟩ | ⟨g, cap, cur, rfl, hb, hg, h1, h2, h3, h4⟩⟩ := h
  · exact ⟨none, 0, by rw [h1], by omega, by decide, fun _ => rfl, rfl, fun h => by omega⟩
  · refine ⟨some ⟨g, 0, none⟩, cap, rfl, h1, h2, (fun e => by cases e), rfl, fun _ => ⟨g, 0, rfl, ⟨cur, hg⟩, fun i hi => ?_⟩⟩
    rw [Nat.zero_add]
    exact rxAt_of_cells hi fun j hj => World.ownsRow.cellAt h' j hj
theorem typed_kept {w w' : World} {u : Value} {L : List Stp} (h : SlX (Typed w) w u L) (hb : ∀ b, Typed w b → w'.heap[b]? = w.heap[b]?) : SlX (Typed w') w' u L :=
  h.below fun b hb' => ⟨by
    obtain ⟨cur, hc⟩ := hb'
    exact ⟨cur, (hb b ⟨cur, hc⟩).trans hc⟩, hb b hb'⟩
theorem typed_lt {w : World} {b : Nat} (h : Typed w b) : b < w.heap.size := by
  obtain ⟨cur, h⟩ := h
  exact (Array.getElem?_eq_some_iff.1 h).1
theorem typed_below {w w' : World} {u : Value} {L : List Stp} (h : SlX (Typed w) w u L) (hb : Below w.heap.size w w') : SlX (Typed w') w' u L := typed_kept h fun b hb' => hb.block b (typed_lt hb')
/-- a row of lists of steps, of the call's own -/
def Sg (w : World) (LL : List (List Stp)) (v : Value) (wr : World) : Prop :=
  ∃ vals : List Value, wr.ownsRow w.heap.size 61 1 v LL.length vals ∧ Below w.heap.size w wr ∧ ∀ i, i < LL.length → ∃ u, vals[i]? = some u ∧ SlX (Typed wr) wr u (LL.getD i [])
theorem Sg.frame {w : World} {LL : List (List Stp)} {v : Value} {wr : World} (h : Sg w LL v wr) : Below w.heap.size w wr := by
  obtain ⟨_, _, h, _⟩ := h
  exact h
theorem Sg.below {w : World} {LL : List (List Stp)} {v : Value} {wr w' : World} (h : Sg w LL v wr) (hb : Below wr.heap.size wr w') : Sg w LL v w' := by
  obtain ⟨vals, h1, h2, h3⟩ := h
  refine ⟨vals, ⟨h1.1, ?_⟩, below_then h2 h2.size hb, fun i hi => ?_⟩
  · rcases h1.2 with hn | ⟨g, cap, cur, rfl, hb', hgg, rest⟩
    · exact .inl hn
    · exact .inr ⟨g, cap, cur, rfl, hb', by rw [hb.block g (Array.getElem?_eq_some_iff.1 hgg).1]; exact hgg, rest⟩
  · obtain ⟨u, g1, g2⟩ := h3 i hi
    exact ⟨u, g1, typed_below g2 hb⟩
theorem Sg.nil (w : World) (b : Nat) (hb : b = w.heap.size) (cur : Array Value) (hc : cur = #[]) : Sg w [] (.slice (some ⟨b, 0, none⟩) 0 0) (w.alloc (.cells cur 61)) := by
  subst hb hc
  exact ⟨[], World.ownsRow_lit (e := 61) (size := 1) w #[] 0 (Nat.le_refl _) (by decide) rfl, (Below.refl _ _).alloc (Nat.le_refl _) _, fun i hi => absurd hi (by simp)⟩
theorem Sg.one {w w1 : World} {u : Value} {L : List Stp} (hb : Below w.heap.size w w1) (hu : SlX (Typed w1) w1 u L) (b : Nat) (he : b = w1.heap.size) : Sg w [L] (.slice (some ⟨b, 0, none⟩) 1 1) (w1.alloc (.cells #[u] 61)) := by
  subst he
  refine ⟨[u], World.ownsRow_lit (e := 61) (size := 1) w1 #[u] 1 hb.size (by decide) rfl, hb.alloc hb.size _, fun i hi => ?_⟩
  obtain rfl : i = 0 := by simpa using hi
  exact ⟨u, rfl, typed_below hu ((Below.refl w1.heap.size w1).alloc (Nat.le_refl _) _)⟩
theorem Sg.all {w : World} {LL : List (List Stp)} {v : Value} {wr : World} (h : Sg w LL v wr) : SlXs (fun b => b < wr.heap.size) wr v LL := by
  obtain ⟨vals, h1, _, h3⟩ := h
  rcases h1.2 with ⟨rfl, h0⟩ | ⟨g, cap, cur, rfl, hb, hgg, g1, g2, _⟩
  · obtain rfl : LL = [] := List.eq_nil_of_length_eq_zero h0
    exact ⟨none, 0, rfl, Nat.le_refl _, by decide, rfl, fun h => absurd h (by simp)⟩
  · refine ⟨some ⟨g, 0, none⟩, cap, rfl, by omega, g2, rfl, fun _ => ⟨g, 0, rfl, (Array.getElem?_eq_some_iff.1 hgg).1, fun i hi => ?_⟩⟩
    obtain ⟨u, q1, q2⟩ := h3 i hi
    exact ⟨u, by rw [Nat.zero_add, World.ownsRow.cellAt h1 i (by omega)]; exact q1, q2.below fun b hb => ⟨typed_lt hb, rfl⟩⟩
/-- one list more -/
theorem app_sg {w0 w : World} {ops : Array Oper} {rest : List Oper} {o : Oper} {a : Act} {Q : Exit → Act → World → Prop} (hgd : o.guard = none) (s x : Operand)
    (ho : o.op = .call { callee := .builtin .append, args := #[s, x], argTypes := #[122, 122] }) {xb : Nat} {v u : Value} {LL : List (List Stp)} {L : List Stp}
    (hs : a.eval s = v) (hS : Sg w0 LL v w) (hx : a.eval x = .slice (some ⟨xb, 0, none⟩) 1 1) (hxb : w.heap[xb]? = some (.cells #[u] 61 (0, 0))) (hu1 : u.oneCell' = true) (hu : SlX (Typed w) w u L) {n : Nat} (hn : LL.length = n) (hn2 : n ≤ 100000)
    (h : ∀ g' c' w', Sg w0 (LL ++ [L]) (.slice (some ⟨g', 0, none⟩) (n + 1) c') w' → wpList Tryz.prog ops Q rest (a.put o.dst (.slice (some ⟨g', 0, none⟩) (n + 1) c')) w') : wpList Tryz.prog ops Q (o :: rest) a w := by
  subst hn
  obtain ⟨i0, hi, hz0, hz1, hz2⟩ := info_parts infoSl
  obtain ⟨vals, hown, hB, hall⟩ := hS
  refine wpList_append_own w hgd s x 122 ho w0.heap.size 61 i0 (.slice none 0 0) 1 24 Tryz.underlying122 hi hz0 hz1 hz2 rfl (by decide) _ LL.length vals hs hown ⟨xb, 0, none⟩ 1 1 [u] hx rfl (fun j z hj => ?_) (fun z hz => by simp at hz; subst hz; exact hu1) (by unfold maxLen; omega) (by omega) hB.size fun v' w' h3 h4 _ => ?_
  · match j, hj with
    | 0, hj =>
      simp only [List.getElem?_cons_zero, Option.some.injEq] at hj
      subst hj
      rw [Addr.add_lit, cell_of_row w xb _ _ _ _ hxb]
      rfl
  · have hk : ∀ b, Typed w b → w'.heap[b]? = w.heap[b]? := fun b hb => h4.block b (typed_lt hb) fun e => by
      obtain ⟨cur, hc⟩ := hb
      rcases hown.2 with ⟨rfl, _⟩ | ⟨g, cap, cur', rfl, _, hgg, _⟩
      · cases e
      · simp only [Value.ownBlock, Option.some.injEq] at e
        subst e
        rw [hgg] at hc
        simp at hc
    have hlen : vals.length = LL.length := by simpa using hown.1
    have hS' : Sg w0 (LL ++ [L]) v' w' := by
      refine ⟨vals ++ [u], by simpa using h3, hB.grown h4 hB.size fun k e => (hown.lt k e).1, fun i hi => ?_⟩
      by_cases e : i = LL.length
      · subst e
        refine ⟨u, by rw [List.getElem?_append_right (by omega), hlen, Nat.sub_self]; rfl, ?_⟩
        have hg : (LL ++ [L]).getD LL.length [] = L := by simp [List.getD_eq_getElem?_getD]
        rw [hg]
        exact typed_kept hu hk
      · have hi' : i < LL.length := by simp at hi; omega
        obtain ⟨x, g1, g2⟩ := hall i hi'
        have hg : (LL ++ [L]).getD i [] = LL.getD i [] := by simp [List.getD_eq_getElem?_getD, List.getElem?_append_left hi']
        rw [hg]
        exact ⟨x, by rw [List.getElem?_append_left (by omega)]; exact g1, typed_kept g2 hk⟩
    rcases ownsRow_forms h3 with ⟨_, h0⟩ | ⟨g, c, rfl⟩
    · omega
    · exact h g c w' hS'
/-- what a reading of steps answers -/
def Rd (w : World) (L : List Stp) (n : Nat) (e : Ending) (w' : World) : Prop := ∃ v, e = .returned (.tuple #[v, .int .i64 (n : Int), .bool true]) ∧ RowX w' w.heap.size v L ∧ Below w.heap.size w w'
def RT : List UInt8 := [40, 41, 91, 93, 124, 42, 43, 63, 46]
/-- a byte that is an atom by itself -/
def Plain (c : UInt8) : Prop := vis c.toNat = true ∧ c ≠ 92 ∧ c ∉ RT
set_option maxHeartbeats 2000000 in
set_option maxRecDepth 100000 in
theorem ratom_at (s : ByteArray) (p : Nat) (c : UInt8) (w : World) (hat : At s p c) (hs : s.size ≤ 1000) (hc : Plain c) :
    Calls Tryz.prog 102 #[.string s, .int .i64 (p : Int)] w (Rd w [sStp (fOne c.toNat)] (p + 1)) := by
  have hC := fun w => rchar_at s p c RT w hat hs (by decide) hc.1 hc.2.1 hc.2.2
  have hO := fun w => rone_calls c.toNat w (UInt8.toNat_lt _)
  have q1 : ((c.toNat : Int) == 40) = false := toNat_ne (d := 40) fun h => hc.2.2 (by rw [h]; decide)
  have q2 : ((c.toNat : Int) == 46) = false := toNat_ne (d := 46) fun h => hc.2.2 (by rw [h]; decide)
  have q3 : ((c.toNat : Int) == 91) = false := toNat_ne (d := 91) fun h => hc.2.2 (by rw [h]; decide)
  obtain ⟨hp, hx⟩ := hat
  have hq := fun w => rset_fn (fOne c.toNat) w
  have HC := hidden hC
  have HO := hidden hO
  have HQ := hidden hq
  have q0 : decide ((p : Int) < (s.size : Int)) = true := decide_eq_true (by omega)
  have q0' : decide (p < s.size) = true := decide_eq_true (by omega)
  generalize fOne c.toNat = f at *
  generalize (c.toNat : Int) = n at *
  clear hC hO hq hc
  go_enter Tryz.func102, Tryz.ntmps102
  go_wp2_with fail
  refine (HC.out _).mono ?_
  rintro e w1 ⟨rfl, rfl⟩
  go_wp2_with fail
  refine (HO.out _).mono ?_
  rintro e w1 ⟨rfl, hb1⟩
  go_wp2_with fail
  refine (HQ.out _).mono ?_
  rintro e w2 ⟨v, rfl, hr, hb2⟩
  obtain ⟨a1, l1, c1, rfl⟩ := rowX_slice hr
  go_wp2
  go_ret3
  exact ⟨_, rfl, hr.lower hb1.size, below_after hb1 hb2⟩
end Go.Proofs.YtnjjbaodfjmiaaaGreat
