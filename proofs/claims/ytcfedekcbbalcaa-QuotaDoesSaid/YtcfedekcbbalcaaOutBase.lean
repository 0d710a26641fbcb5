/- A buffer with a limit in memory, what it holds, and what a call that turns it leaves as it was. -/
import Derived.Test.YtcfedekcbbalcaaTexts
import Derived.OneCell
import Derived.Handy
namespace Go.Proofs.Ytcfedekcbbalcaa
open Go.RowKit Go.Lib

/-! ### the buffer -/
def E8 : TypeId := 5
/-- block o holds an Out with text s and room r; its bytes lie in a row of their own, from block B on -/
structure OutAt (w : World) (B o : Nat) (s : ByteArray) (r : Nat) (v : Value) : Prop where
  blk : w.heap[o]? = some (.cells #[v, .int .i64 r] 56 (0, 0))
  own : w.ownsRow B 5 1 v s.size (strCells s)
  low : B ≤ w.heap.size
  le : s.size ≤ r
  top : r ≤ 1073741824
/-- block b is none that a call on the Out at o may turn -/
def Kin (B o : Nat) (w : World) (b : Nat) : Prop := b < w.heap.size ∧ b ≠ o ∧ (b < B ∨ ∀ cs fr, w.heap[b]? ≠ some (.cells cs 5 fr))
structure Save (B o : Nat) (w w' : World) : Prop where
  os : w'.os = w.os
  tape : w'.tape = w.tape
  output : w'.output = w.output
  size : w.heap.size ≤ w'.heap.size
  block : ∀ k, Kin B o w k → w'.heap[k]? = w.heap[k]?
theorem Save.refl (B o : Nat) (w : World) : Save B o w w := ⟨rfl, rfl, rfl, Nat.le_refl _, fun _ _ => rfl⟩
theorem Kin.save {B o : Nat} {w w' : World} {b : Nat} (h : Kin B o w b) (hs : Save B o w w') : Kin B o w' b :=
  ⟨Nat.lt_of_lt_of_le h.1 hs.size, h.2.1, h.2.2.imp id fun h3 cs fr => by rw [hs.block b h]; exact h3 cs fr⟩
theorem Save.trans {B o : Nat} {a b c : World} (h : Save B o a b) (k : Save B o b c) : Save B o a c :=
  ⟨k.os.trans h.os, k.tape.trans h.tape, k.output.trans h.output, Nat.le_trans h.size k.size, fun i hi => (k.block i (hi.save h)).trans (h.block i hi)⟩
theorem Save.of_below {B o : Nat} {w w' : World} (h : Below w.heap.size w w') : Save B o w w' := ⟨h.os, h.tape, h.output, h.size, fun k hk => h.block k hk.1⟩
theorem Save.below {B o n : Nat} {w w' : World} (h : Save B o w w') (hB : n ≤ B) (ho : n ≤ o) (hn : n ≤ w.heap.size) : Below n w w' :=
  ⟨h.os, h.tape, h.output, h.size, fun k hk => h.block k ⟨by omega, by omega, .inl (by omega)⟩⟩
theorem Save.cell {B o : Nat} {w w' : World} (h : Save B o w w') {p : Addr} (hp : Kin B o w p.block) : w'.cell? p = w.cell? p := World.cell?_of_block (h.block p.block hp)

theorem OutAt.form {w : World} {B o : Nat} {s : ByteArray} {r : Nat} {v : Value} (h : OutAt w B o s r v) : ∃ a c, v = .slice a s.size c ∧ s.size ≤ c ∧ c ≤ maxLen := by
  rcases h.own.2 with ⟨rfl, h0⟩ | ⟨g, cap, cur, rfl, _, _, hn, hc, _⟩
  · exact ⟨none, 0, by rw [h0], by omega, Nat.zero_le _⟩
  · exact ⟨_, cap, rfl, hn, hc⟩
theorem OutAt.cell0 {w : World} {B o : Nat} {s : ByteArray} {r : Nat} {v : Value} (h : OutAt w B o s r v) : w.cell? ⟨o, 0, none⟩ = some v := cell_of_row w o 0 _ _ _ h.blk
theorem OutAt.cell1 {w : World} {B o : Nat} {s : ByteArray} {r : Nat} {v : Value} (h : OutAt w B o s r v) : w.cell? ⟨o, 1, none⟩ = some (.int .i64 r) := cell_of_row w o 1 _ _ _ h.blk
theorem OutAt.frozen0 {w : World} {B o : Nat} {s : ByteArray} {r : Nat} {v : Value} (h : OutAt w B o s r v) : w.frozen? ⟨o, 0, none⟩ = false := frozen_of_row w o 0 _ _ h.blk
theorem OutAt.lt {w : World} {B o : Nat} {s : ByteArray} {r : Nat} {v : Value} (h : OutAt w B o s r v) : o < w.heap.size := lt_of_block h.blk
theorem OutAt.fresh {w : World} {B o : Nat} {r : Nat} (h : w.heap[o]? = some (.cells #[.slice none 0 0, .int .i64 r] 56 (0, 0))) (hB : B ≤ w.heap.size) (hr : r ≤ 1073741824) : OutAt w B o ByteArray.empty r (.slice none 0 0) :=
  ⟨h, World.ownsRow_nil w B _ 1, hB, Nat.zero_le _, hr⟩
theorem row_ne {w : World} {B o : Nat} {v u : Value} {n : Nat} {xs : List Value} {r : Int} (hown : w.ownsRow B 5 1 v n xs) (hb : w.heap[o]? = some (.cells #[u, .int .i64 r] 56 (0, 0))) : v.ownBlock ≠ some o := by
  intro e
  rcases hown.2 with ⟨rfl, _⟩ | ⟨g, cap, cur, rfl, _, hg, _⟩
  · simp [Value.ownBlock] at e
  · simp only [Value.ownBlock, Option.some.injEq] at e
    subst e
    rw [hb] at hg
    simp at hg
theorem OutAt.below {w w' : World} {B o : Nat} {s : ByteArray} {r : Nat} {v : Value} (h : OutAt w B o s r v) (hb : Below w.heap.size w w') : OutAt w' B o s r v := by
  refine ⟨(hb.block o h.lt).trans h.blk, ⟨h.own.1, ?_⟩, Nat.le_trans h.low hb.size, h.le, h.top⟩
  rcases h.own.2 with h2 | ⟨g, cap, cur, hv, hbg, hg, hr⟩
  · exact .inl h2
  · exact .inr ⟨g, cap, cur, hv, hbg, (hb.block g (lt_of_block hg)).trans hg, hr⟩
theorem OutAt.alloc {w : World} {B o : Nat} {s : ByteArray} {r : Nat} {v : Value} (h : OutAt w B o s r v) (x : Obj) : OutAt (w.alloc x) B o s r v :=
  h.below ((Below.refl _ _).alloc (Nat.le_refl _) x)
/-- another Out, whose row lies below, is as it was -/
theorem OutAt.other {w w' : World} {B o B' o' : Nat} {s : ByteArray} {r : Nat} {v : Value} (h : OutAt w B o s r v) (hs : Save B' o' w w') (hne : o ≠ o') (hrow : ∀ g, v.ownBlock = some g → g < B' ∧ g ≠ o') : OutAt w' B o s r v := by
  have hk : Kin B' o' w o := ⟨h.lt, hne, .inr fun cs fr e => by rw [h.blk] at e; simp at e⟩
  refine ⟨(hs.block o hk).trans h.blk, ⟨h.own.1, ?_⟩, Nat.le_trans h.low hs.size, h.le, h.top⟩
  rcases h.own.2 with h2 | ⟨g, cap, cur, hv, hbg, hg, hr⟩
  · exact .inl h2
  · have := hrow g (by rw [hv]; rfl)
    exact .inr ⟨g, cap, cur, hv, hbg, (hs.block g ⟨lt_of_block hg, this.2, .inl this.1⟩).trans hg, hr⟩
/-- the row may have grown, and the new one is laid in the Out -/
theorem OutAt.turned {w w1 : World} {B o : Nat} {s s' : ByteArray} {r : Nat} {v v' : Value} (h : OutAt w B o s r v) (hg : w.grownBy w1 v.ownBlock) (hown : w1.ownsRow B 5 1 v' s'.size (strCells s')) (hle : s'.size ≤ r) :
    OutAt (w1.setCell ⟨o, 0, none⟩ v') B o s' r v' ∧ Save B o w (w1.setCell ⟨o, 0, none⟩ v') := by
  have hne := row_ne h.own h.blk
  have h1 : w1.heap[o]? = some (.cells #[v, .int .i64 r] 56 (0, 0)) := (hg.block o h.lt (fun e => hne e.symm)).trans h.blk
  have hne' := row_ne hown h1
  refine ⟨⟨?_, ownsRow_setCell_other hown hne' v', ?_, hle, h.top⟩, ⟨hg.os, hg.tape, hg.output, ?_, fun k hk => ?_⟩⟩
  · exact heap_setCell_same w1 o 0 _ _ v' h1
  · have := h.low
    have := hg.size
    simp [World.setCell]
    omega
  · have := hg.size
    simp [World.setCell]
    omega
  · rw [heap_setCell_other _ _ _ _ hk.2.1]
    refine hg.block k hk.1 fun e => ?_
    rcases h.own.2 with ⟨rfl, _⟩ | ⟨g, cap, cur, rfl, hbg, hg', _⟩
    · simp [Value.ownBlock] at e
    · simp only [Value.ownBlock, Option.some.injEq] at e
      subst e
      rcases hk.2.2 with h3 | h3
      · omega
      · exact h3 _ _ hg'
theorem grown_refl (w : World) (row : Option Nat) : w.grownBy w row := ⟨rfl, rfl, rfl, Nat.le_refl _, fun _ _ _ => rfl⟩
/-- a row that is cut -/
theorem own_take {w : World} {B : Nat} {a : Option Addr} {n c k : Nat} {xs : List Value} (h : w.ownsRow B 5 1 (.slice a n c) n xs) (hk : k ≤ n) : w.ownsRow B 5 1 (.slice a k c) k (xs.take k) := by
  have hl : xs.length = n := by simpa using h.1
  refine ⟨by simp; omega, ?_⟩
  rcases h.2 with ⟨hv, h0⟩ | ⟨g, cap, cur, hv, hb, hg, hn, hc, hs, ht⟩
  · cases hv
    exact .inl ⟨by rw [show k = 0 by omega], by omega⟩
  · cases hv
    refine .inr ⟨g, c, cur, rfl, hb, hg, by omega, hc, hs, ?_⟩
    rw [← ht, List.take_take]
    congr 1
    omega
end Go.Proofs.Ytcfedekcbbalcaa
