/- MaMath, MaRow, SpSame, SpHas, put together. -/
import Derived.Test.YtgaadndhecokfaaMu01
import Derived.Lib.SlicesCompact
import Derived.Laws.OwnMore
import Derived.Lib.SmallJoins
import Derived.Laws.AppendOwn
import Derived.Laws.Rows
import Derived.Deep.QuietTactic
/- Strictly rising lists of numbers: what a merge does with two, what putting a number in makes. Of no program. -/
namespace Go.Proofs.Ytgaadndhecokfaa

def Up (l : List Int) : Prop := l.Pairwise (· < ·)
theorem up_cons {x : Int} {a : List Int} : Up (x :: a) ↔ (∀ y ∈ a, x < y) ∧ Up a := List.pairwise_cons
/-! ### a number more -/
end Go.Proofs.Ytgaadndhecokfaa

/- Slices of numbers: what they read as; rows of the call's own; contracts of the reference's Has, Right and Same. -/
namespace Go.Proofs.Ytgaadndhecokfaa
open Go.RowKit Go.Lib Go.Joins

theorem infoInt : (Try.prog.info? 3).map (fun i => (i.zero, i.size, i.bytes)) = some (some (.int .i64 0), 1, 8) := by kernel_rfl
/-- slice value v reads as these numbers, in a block that stands below B -/
def RdZ (B : Nat) (w : World) (v : Value) (l : List Int) : Prop := ∃ a cap, v = .slice a l.length cap ∧ l.length ≤ cap ∧ cap ≤ maxLen ∧ (a = none → cap = 0) ∧ (0 < l.length → ∃ b off, a = some ⟨b, off, none⟩ ∧ b < B ∧ ∀ i, i < l.length → w.cell? ⟨b, off + i, none⟩ = some (.int .i64 (l.getD i 0)))
theorem RdZ.below {B B' : Nat} {w w' : World} {v : Value} {l : List Int} (h : RdZ B w v l) (hb : Below B w w') (hB : B ≤ B') : RdZ B' w' v l := by
  obtain ⟨a, cap, rfl, h1, h2, h3, h4⟩ := h
  refine ⟨a, cap, rfl, h1, h2, h3, fun hp => ?_⟩
  obtain ⟨b, off, e, hlt, hc⟩ := h4 hp
  exact ⟨b, off, e, by omega, fun i hi => (hb.cell (p := ⟨b, off + i, none⟩) hlt).trans (hc i hi)⟩
theorem RdZ.later {w w' : World} {v : Value} {l : List Int} (h : RdZ w.heap.size w v l) (hb : Below w.heap.size w w') : RdZ w'.heap.size w' v l := h.below hb hb.size
theorem RdZ.form {B : Nat} {w : World} {v : Value} {l : List Int} (h : RdZ B w v l) : ∃ a cap, v = .slice a l.length cap := by
  obtain ⟨a, cap, rfl, _⟩ := h
  exact ⟨a, cap, rfl⟩
/-- slice value v owns these numbers, in a block from base on -/
def RowZ (w : World) (base : Nat) (v : Value) (l : List Int) : Prop := w.ownsRow base 3 1 v l.length (l.map (Value.int .i64))
theorem RowZ.nil (w : World) (base : Nat) : RowZ w base (.slice none 0 0) [] := World.ownsRow_nil _ _ _ _
theorem RowZ.lit (w : World) (b : Nat) (hb : b = w.heap.size) (cur : Array Value) (hc : cur = #[]) : RowZ (w.alloc (.cells cur 3)) w.heap.size (.slice (some ⟨b, 0, none⟩) 0 0) [] := by
  subst hb hc
  exact World.ownsRow_lit (e := 3) (size := 1) w #[] 0 (Nat.le_refl _) (by decide) rfl
theorem RowZ.kept {w w' : World} {base : Nat} {v : Value} {l : List Int} (h : RowZ w base v l) (hb : Below w.heap.size w w') : RowZ w' base v l :=
  World.ownsRow.kept (row := none) h ⟨hb.os, hb.tape, hb.output, hb.size, fun k hk _ => hb.block k hk⟩ (by cases v.ownBlock <;> simp)
theorem RowZ.lower {w : World} {base base' : Nat} {v : Value} {l : List Int} (h : RowZ w base v l) (hb : base' ≤ base) : RowZ w base' v l := ownsRow_le h hb
theorem RowZ.form {w : World} {base : Nat} {v : Value} {l : List Int} (h : RowZ w base v l) : ∃ a cap, v = .slice a l.length cap := by
  rcases ownsRow_forms h with ⟨rfl, h0⟩ | ⟨g, cap, rfl⟩
  · exact ⟨none, 0, by rw [h0]⟩
  · exact ⟨_, _, rfl⟩
theorem RowZ.reads {w : World} {base : Nat} {v : Value} {l : List Int} (h : RowZ w base v l) : RdZ w.heap.size w v l := by
  have h' := h
  rcases h.2 with ⟨rfl, h0⟩ | ⟨g, cap, cur, rfl, hb, hg, h1, h2, h3, h4⟩
  · exact ⟨none, 0, by rw [h0], by omega, by decide, fun _ => rfl, fun hp => by omega⟩
  · refine ⟨some ⟨g, 0, none⟩, cap, rfl, h1, h2, (fun e => by cases e), fun _ => ⟨g, 0, rfl, (Array.getElem?_eq_some_iff.1 hg).1, fun i hi => ?_⟩⟩
    rw [Nat.zero_add, World.ownsRow.cellAt h' i (by omega), List.getElem?_map, List.getD_eq_getElem?_getD, List.getElem?_eq_getElem hi]
    rfl
def RetZ (w : World) (l : List Int) (e : Ending) (w' : World) : Prop := ∃ v, e = .returned v ∧ RowZ w' w.heap.size v l ∧ Below w.heap.size w w'
/-- an append of one number -/
theorem app_z {w : World} {ops : Array Oper} {rest : List Oper} {o : Oper} {a : Act} {Q : Exit → Act → World → Prop} (hgd : o.guard = none) (s x : Operand)
    (ho : o.op = .call { callee := .builtin .append, args := #[s, x], argTypes := #[24, 24] }) {base xb : Nat} {z : Int} {v : Value} {l : List Int}
    (hs : a.eval s = v) (hown : RowZ w base v l) (hx : a.eval x = .slice (some ⟨xb, 0, none⟩) 1 1) (hxb : w.heap[xb]? = some (.cells #[.int .i64 z] 3 (0, 0))) {n : Nat} (hn : l.length = n) (hn2 : n ≤ 100000) (hb0 : base ≤ w.heap.size)
    (h : ∀ g' c' w', RowZ w' base (.slice (some ⟨g', 0, none⟩) (n + 1) c') (l ++ [z]) → w.grownBy w' v.ownBlock → Below base w w' → wpList Try.prog ops Q rest (a.put o.dst (.slice (some ⟨g', 0, none⟩) (n + 1) c')) w') : wpList Try.prog ops Q (o :: rest) a w := by
  subst hn
  obtain ⟨i0, hi, hz0, hz1, hz2⟩ := info_parts infoInt
  refine wpList_append_own w hgd s x 24 ho base 3 i0 _ 1 8 Try.underlying24 hi hz0 hz1 hz2 rfl (by decide) _ l.length (l.map (Value.int .i64)) hs hown ⟨xb, 0, none⟩ 1 1 [.int .i64 z] hx rfl (fun j x hj => ?_) (fun x hx => by simp at hx; subst hx; rfl) (by unfold maxLen; omega) (by omega) hb0 fun v' w' h3 h4 _ => ?_
  · match j, hj with
    | 0, hj =>
      simp only [List.getElem?_cons_zero, Option.some.injEq] at hj
      subst hj
      rw [Addr.add_lit, cell_of_row w xb _ _ _ _ hxb]
      rfl
  · have hb : Below base w w' := (Below.refl base w).grown h4 hb0 fun k e => (hown.lt k e).1
    rcases ownsRow_forms h3 with ⟨_, h0⟩ | ⟨g, c, rfl⟩
    · omega
    · exact h g c w' (by unfold RowZ; simpa using h3) h4 hb
/-- does a list rise? -/
instance (l : List Int) : Decidable (Up l) := by unfold Up; infer_instance
end Go.Proofs.Ytgaadndhecokfaa

/- Contract of the reference's SameInts. -/
namespace Go.Proofs.Ytgaadndhecokfaa
open Go.RowKit Go.Lib Go.Joins
theorem drop_eqZ {l m : List Int} (k : Nat) (hk : k < l.length) (hl : l.length = m.length) : (l.drop k = m.drop k) ↔ (l.getD k 0 = m.getD k 0 ∧ l.drop (k + 1) = m.drop (k + 1)) := by
  rw [List.drop_eq_getElem_cons hk, List.drop_eq_getElem_cons (by omega : k < m.length), List.getD_eq_getElem?_getD, List.getD_eq_getElem?_getD, List.getElem?_eq_getElem hk, List.getElem?_eq_getElem (by omega : k < m.length)]
  exact ⟨fun h => List.cons.inj h, fun h => by rw [show l[k] = m[k] from h.1, h.2]⟩
end Go.Proofs.Ytgaadndhecokfaa

/- Contract of the reference's Has. -/
namespace Go.Proofs.Ytgaadndhecokfaa
open Go.RowKit Go.Lib Go.Joins

theorem mem_drop (l : List Int) (n : Int) (i : Nat) (h : i < l.length) : n ∈ l.drop i ↔ n = l.getD i 0 ∨ n ∈ l.drop (i + 1) := by
  rw [List.drop_eq_getElem_cons h, List.mem_cons, List.getD_eq_getElem?_getD, List.getElem?_eq_getElem h]
  rfl
set_option maxHeartbeats 2000000 in
set_option maxRecDepth 100000 in
theorem has10_calls {B : Nat} (w : World) (v : Value) (l : List Int) (n : Int) (h : RdZ B w v l) : Calls Try.prog 76 #[v, .int .i64 n] w fun e w' => e = .returned (.bool (decide (n ∈ l))) ∧ Below w.heap.size w w' := by
  obtain ⟨a, cap, rfl, h1, h2, _, h4⟩ := h
  have HR := hidden (fun (b : Bool) (h : (n ∈ l) ↔ b = true) => (show decide (n ∈ l) = b by cases b <;> simp_all))
  have HD := hidden (fun i hi => mem_drop l n i hi)
  have HE := hidden (fun i (hi : l.length ≤ i) => (show ¬ n ∈ l.drop i by rw [List.drop_eq_nil_of_le hi]; simp))
  have H4 := hidden h4
  obtain ⟨m, hm⟩ : ∃ m, m = l.length := ⟨_, rfl⟩
  rw [← hm] at HD HE H4 h1 ⊢
  unfold maxLen at h2
  clear h4 hm
  go_enter Try.func76, Try.ntmps76
  go_wp2
  go_loopw [5] (fun i wr => ∃ k : Nat, k ≤ m ∧ i = .int .i64 k ∧ Hid ((n ∈ l) ↔ n ∈ l.drop k) ∧ Below w.heap.size w wr) (fun i _ => m - (Go.RowKit.intOf i).toNat)
  case atStart => exact ⟨0, by omega, rfl, hidden (by simp), Below.refl _ _⟩
  case round =>
    obtain ⟨k, hk, rfl, hd, hb⟩ := hrel
    have HB := hidden hb
    by_cases hlt : k < m
    · obtain ⟨b, off, rfl, hbB, hc⟩ := H4.out (by omega)
      have c1 := (hb.cell (p := ⟨b, off + k, none⟩) (cell_lt (hc k hlt))).trans (hc k hlt)
      have HK := hidden (HD.out k hlt)
      clear hc hb
      by_cases he : l.getD k 0 = n
      · have HF := hidden (HR.out true (by rw [hd.out, HK.out]; exact iff_of_true (.inl he.symm) rfl))
        rw [he] at c1
        have hq : (n == n) = true := by simp
        clear he HK hd
        go_wp2
        go_ret
        exact ⟨ret_b HF.out.symm, HB.out⟩
      · have HF := hidden (show (n ∈ l) ↔ n ∈ l.drop (k + 1) by rw [hd.out, HK.out]; exact ⟨fun h => h.resolve_left (Ne.symm he), .inr⟩)
        have hq : (l.getD k 0 == n) = false := by simpa using he
        generalize l.getD k 0 = x at *
        clear he HK hd
        go_wp2
        go_roundw
        case rel => exact ⟨k + 1, by omega, by go_num, HF, HB.out⟩
        case measure => simp [Go.RowKit.intOf]; omega
    · have HF := hidden (HR.out false (by rw [hd.out]; simp [HE.out k (by omega)]))
      clear hd
      go_wp2
      go_ret
      exact ⟨ret_b HF.out.symm, HB.out⟩
/-- does a list rise? -/
instance (l : List Int) : Decidable (Up l) := by unfold Up; infer_instance
end Go.Proofs.Ytgaadndhecokfaa
