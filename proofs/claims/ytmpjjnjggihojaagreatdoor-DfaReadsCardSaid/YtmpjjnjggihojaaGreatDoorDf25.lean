/- DfOwn, DfBut, DfPaths, DfAfter, put together. -/
import Derived.Test.YtmpjjnjggihojaaGreatDoorDf24
import Derived.RangeFuncBox
import Derived.Test.YtmpjjnjggihojaaGreatDoorShelf
import Derived.Test.YtmpjjnjggihojaaGreatDoorDf05
import Derived.Sort.OwnSortedInts
/- Rows of a call's own that lie apart, beside blocks that are no rows: one row grows, is let go, or is begun anew; what is far from all of them stays as it is. -/
namespace Go.Proofs.YtmpjjnjggihojaaGreatDoor
open Go.RowKit Go.Lib Go.Joins

/-- rows that lie apart, outside the blocks X -/
structure OwnR (w : World) (X : Nat → Prop) (base : Nat) (rs : List R5) : Prop where
  rows : ∀ r ∈ rs, r.at w base
  apart : rs.Pairwise fun r s => away r.v s.v
  out : ∀ r ∈ rs, ∀ k, r.v.ownBlock = some k → ¬ X k
  fixed : ∀ k, X k → k < w.heap.size
/-- a block that is none of them -/
def FarR (w : World) (X : Nat → Prop) (rs : List R5) (k : Nat) : Prop := k < w.heap.size ∧ ¬ X k ∧ ∀ r ∈ rs, r.v.ownBlock ≠ some k
/-- what is far stays far, and as it is -/
def StayR (X : Nat → Prop) (w : World) (rs : List R5) (w' : World) (rs' : List R5) : Prop := ∀ k, FarR w X rs k → FarR w' X rs' k ∧ w'.heap[k]? = w.heap[k]?
theorem StayR.refl (X : Nat → Prop) (w : World) (rs : List R5) : StayR X w rs w rs := fun _ h => ⟨h, rfl⟩
theorem StayR.trans {X : Nat → Prop} {a b c : World} {ra rb rc : List R5} (h : StayR X a ra b rb) (k : StayR X b rb c rc) : StayR X a ra c rc := fun i hi => ⟨(k i (h i hi).1).1, (k i (h i hi).1).2.trans (h i hi).2⟩
section
variable {w w' : World} {X : Nat → Prop} {base : Nat} {rs : List R5}
theorem OwnR.kept (h : OwnR w X base rs) (hb : Below w.heap.size w w') : OwnR w' X base rs :=
  ⟨fun r hr => World.ownsRow.kept (row := none) (h.rows r hr) ⟨hb.os, hb.tape, hb.output, hb.size, fun k hk _ => hb.block k hk⟩ (by cases r.v.ownBlock <;> simp), h.apart, h.out, fun k hk => Nat.lt_of_lt_of_le (h.fixed k hk) hb.size⟩
theorem StayR.below (hb : Below w.heap.size w w') : StayR X w rs w' rs := fun k hk => ⟨⟨Nat.lt_of_lt_of_le hk.1 hb.size, hk.2⟩, hb.block k hk.1⟩
/-- a row's block -/
theorem OwnR.lt (h : OwnR w X base rs) {r : R5} (hr : r ∈ rs) {k : Nat} (hk : r.v.ownBlock = some k) : base ≤ k ∧ k < w.heap.size := World.ownsRow.lt (h.rows r hr) k hk
/-- row i becomes a row that lies where it lay, or in a new block -/
theorem OwnR.grow (h : OwnR w X base rs) (i : Nat) (hi : i < rs.length) (r' : R5) (hg : w.grownBy w' rs[i].v.ownBlock) (ho : r'.at w' base) (hat : ∀ k, r'.v.ownBlock = some k → rs[i].v.ownBlock = some k ∨ w.heap.size ≤ k) : OwnR w' X base (rs.set i r') := by
  have haw : ∀ j (hj : j < rs.length), j ≠ i → away r'.v rs[j].v := by
    intro j hj hne
    cases hv : r'.v.ownBlock with
    | none => exact .inl hv
    | some k =>
      refine .inr fun e => ?_
      rw [hv] at e
      rcases hat k hv with e2 | e2
      · rcases away_at h.apart i hi j hj (Ne.symm hne) with e3 | e3
        · rw [e2] at e3; cases e3
        · exact e3 (e2.trans e)
      · have := (h.lt (List.getElem_mem hj) e.symm).2
        omega
  refine ⟨?_, ?_, ?_, fun k hk => Nat.lt_of_lt_of_le (h.fixed k hk) hg.size⟩
  · intro r hr
    obtain ⟨j, hj, rfl⟩ := List.getElem_of_mem hr
    rw [List.length_set] at hj
    rw [List.getElem_set]
    by_cases e : i = j
    · rw [if_pos e]; exact ho
    · rw [if_neg e]
      exact World.ownsRow.kept (h.rows _ (List.getElem_mem hj)) hg (away_at h.apart j hj i hi (Ne.symm e))
  · rw [List.pairwise_iff_getElem]
    intro a b ha hb hab
    rw [List.length_set] at ha hb
    rw [List.getElem_set, List.getElem_set]
    by_cases e1 : i = a
    · subst e1
      rw [if_pos rfl, if_neg (by omega)]
      exact haw b hb (by omega)
    · rw [if_neg e1]
      by_cases e2 : i = b
      · subst e2
        rw [if_pos rfl]
        exact (haw a ha (by omega)).symm
      · rw [if_neg e2]
        exact away_at h.apart a ha b hb (by omega)
  · intro r hr k hk hX
    rcases List.mem_or_eq_of_mem_set hr with hr | rfl
    · exact h.out r hr k hk hX
    · rcases hat k hk with e | e
      · exact h.out _ (List.getElem_mem hi) k e hX
      · have := h.fixed k hX; omega
theorem StayR.grow (i : Nat) (hi : i < rs.length) (r' : R5) (hg : w.grownBy w' rs[i].v.ownBlock) (hat : ∀ k, r'.v.ownBlock = some k → rs[i].v.ownBlock = some k ∨ w.heap.size ≤ k) : StayR X w rs w' (rs.set i r') := by
  rintro k ⟨h1, h2, h3⟩
  refine ⟨⟨Nat.lt_of_lt_of_le h1 hg.size, h2, fun r hr e => ?_⟩, hg.block k h1 fun e => h3 _ (List.getElem_mem hi) e.symm⟩
  rcases List.mem_or_eq_of_mem_set hr with hr | rfl
  · exact h3 r hr e
  · rcases hat k e with e2 | e2
    · exact h3 _ (List.getElem_mem hi) e2
    · omega
/-- a block of X, behind a row's growth -/
theorem OwnR.fix (h : OwnR w X base rs) {o : Option Nat} (hg : w.grownBy w' o) (ho : ∀ k, o = some k → ∃ r ∈ rs, r.v.ownBlock = some k) {k : Nat} (hX : X k) : w'.heap[k]? = w.heap[k]? :=
  hg.block k (h.fixed k hX) fun e => by
    obtain ⟨r, hr, e2⟩ := ho k e.symm
    exact h.out r hr k e2 hX
/-- a store to a block of X -/
theorem OwnR.store (h : OwnR w X base rs) {B : Nat} (hX : X B) (j : Nat) (u : Value) : OwnR (w.setCell ⟨B, j, none⟩ u) X base rs := by
  have hgs : w.grownBy (w.setCell ⟨B, j, none⟩ u) (some B) := ⟨rfl, rfl, rfl, by simp, fun k _ hk => heap_setCell_other _ _ _ _ (fun e => hk (by rw [e]))⟩
  exact ⟨fun r hr => World.ownsRow.kept (h.rows r hr) hgs (.inr fun e => h.out r hr B e hX), h.apart, h.out, fun k hk => by simpa using h.fixed k hk⟩
theorem StayR.store {B : Nat} (hX : X B) (j : Nat) (u : Value) : StayR X w rs (w.setCell ⟨B, j, none⟩ u) rs := by
  rintro k ⟨h1, h2, h3⟩
  exact ⟨⟨by simpa using h1, h2, h3⟩, heap_setCell_other _ _ _ _ (fun e => h2 (e ▸ hX))⟩
/-- row i is let go: its block is far -/
theorem OwnR.drop (h : OwnR w X base rs) (i : Nat) (hi : i < rs.length) (t : TypeId) (sz : Nat) : OwnR w X base (rs.set i ⟨t, sz, .slice none 0 0, 0, []⟩) :=
  h.grow i hi _ ⟨rfl, rfl, rfl, Nat.le_refl _, fun _ _ _ => rfl⟩ (World.ownsRow_nil w base t sz) (by intro k hk; cases hk)
theorem StayR.drop (i : Nat) (hi : i < rs.length) (t : TypeId) (sz : Nat) : StayR X w rs w (rs.set i ⟨t, sz, .slice none 0 0, 0, []⟩) :=
  StayR.grow i hi _ ⟨rfl, rfl, rfl, Nat.le_refl _, fun _ _ _ => rfl⟩ (by intro k hk; cases hk)
theorem OwnR.far_drop (h : OwnR w X base rs) (i : Nat) (hi : i < rs.length) (t : TypeId) (sz : Nat) {k : Nat} (hk : rs[i].v.ownBlock = some k) : FarR w X (rs.set i ⟨t, sz, .slice none 0 0, 0, []⟩) k := by
  refine ⟨(h.lt (List.getElem_mem hi) hk).2, h.out _ (List.getElem_mem hi) k hk, fun r hr e => ?_⟩
  obtain ⟨j, hj, rfl⟩ := List.getElem_of_mem hr
  rw [List.length_set] at hj
  rw [List.getElem_set] at e
  by_cases e1 : i = j
  · rw [if_pos e1] at e; cases e
  · rw [if_neg e1] at e
    rcases away_at h.apart i hi j hj e1 with e3 | e3
    · rw [hk] at e3; cases e3
    · exact e3 (hk.trans e.symm)
/-- a row that lies in new blocks: its elements are far -/
theorem OwnR.far_new (h : OwnR w X base rs) {B k : Nat} (hB : w.heap.size ≤ B) (hk : B ≤ k ∧ k < w'.heap.size) : FarR w' X rs k :=
  ⟨hk.2, fun hX => by have := h.fixed k hX; omega, fun r hr e => by have := (h.lt hr e).2; omega⟩
end
/-- values that read as lists, in blocks of a kind -/
def Els (P : Nat → Prop) (w : World) (us : List Value) (L : List (List Int)) : Prop := us.length = L.length ∧ ∀ i, i < L.length → ElR P w (us.getD i undef) (L.getD i [])
theorem Els.mono {P P' : Nat → Prop} {w w' : World} {us : List Value} {L : List (List Int)} (h : Els P w us L) (hk : ∀ k, P k → P' k ∧ w'.heap[k]? = w.heap[k]?) : Els P' w' us L := ⟨h.1, fun i hi => (h.2 i hi).mono hk⟩
theorem Els.nil (P : Nat → Prop) (w : World) : Els P w [] [] := ⟨rfl, fun _ h => absurd h (Nat.not_lt_zero _)⟩
theorem Els.snoc {P : Nat → Prop} {w : World} {us : List Value} {L : List (List Int)} (h : Els P w us L) {u : Value} {l : List Int} (hu : ElR P w u l) : Els P w (us ++ [u]) (L ++ [l]) := by
  refine ⟨by simp [h.1], fun i hi => ?_⟩
  have hl := h.1
  simp only [List.length_append, List.length_cons, List.length_nil] at hi
  by_cases hi2 : i < L.length
  · have e1 : (us ++ [u]).getD i undef = us.getD i undef := by rw [List.getD_eq_getElem?_getD, List.getD_eq_getElem?_getD, List.getElem?_append_left (by omega)]
    have e2 : (L ++ [l]).getD i [] = L.getD i [] := by rw [List.getD_eq_getElem?_getD, List.getD_eq_getElem?_getD, List.getElem?_append_left (by omega)]
    rw [e1, e2]
    exact h.2 i hi2
  · have hi3 : i = L.length := by omega
    have e1 : (us ++ [u]).getD i undef = u := by rw [List.getD_eq_getElem?_getD, hi3, ← hl, List.getElem?_append_right (Nat.le_refl _)]; simp
    have e2 : (L ++ [l]).getD i [] = l := by rw [List.getD_eq_getElem?_getD, hi3, List.getElem?_append_right (Nat.le_refl _)]; simp
    rw [e1, e2]
    exact hu
/-- a row of lists, read -/
theorem Els.reads {P : Nat → Prop} {w : World} {us : List Value} {L : List (List Int)} {v : Value} {base : Nat} (h : Els P w us L) (hr : w.ownsRow base 23 1 v L.length us) (hP : ∀ k, P k → k < w.heap.size) : RdZZ w.heap.size w v L := by
  rcases hr.2 with ⟨rfl, h0⟩ | ⟨g, cap, cur, rfl, hb, hg, h1, h2, h3, h4⟩
  · exact ⟨none, 0, by rw [h0], by omega, by decide, fun _ => rfl, fun hp => by omega⟩
  · refine ⟨some ⟨g, 0, none⟩, cap, rfl, h1, h2, (fun e => by cases e), fun _ => ⟨g, 0, rfl, (Array.getElem?_eq_some_iff.1 hg).1, fun i hi => ?_⟩⟩
    have hi' : i < us.length := by rw [h.1]; exact hi
    refine ⟨us.getD i undef, ?_, ?_⟩
    · rw [Nat.zero_add, World.ownsRow.cellAt hr i (by omega), List.getD_eq_getElem?_getD, List.getElem?_eq_getElem hi']
      rfl
    · obtain ⟨a, c, e, k1, k2, k3, k4⟩ := h.2 i hi
      exact ⟨a, c, e, k1, k2, k3, fun hp => by
        obtain ⟨b, off, e, hPb, hc⟩ := k4 hp
        exact ⟨b, off, e, hP b hPb, hc⟩⟩
end Go.Proofs.YtmpjjnjggihojaaGreatDoor

/- All blocks but some are kept: the frame of calls that write to blocks that they are handed; a table of rows of the call's own, one a place. -/
namespace Go.Proofs.YtmpjjnjggihojaaGreatDoor
open Go.RowKit Go.Lib Go.Joins

/-- below n all blocks but those of X are kept -/
structure But (n : Nat) (X : Nat → Prop) (w w' : World) : Prop where
  os : w'.os = w.os
  tape : w'.tape = w.tape
  output : w'.output = w.output
  size : w.heap.size ≤ w'.heap.size
  block : ∀ k, k < n → ¬ X k → w'.heap[k]? = w.heap[k]?
section
variable {n m : Nat} {X Y : Nat → Prop} {a b c w w' : World}
theorem But.refl (n : Nat) (X : Nat → Prop) (w : World) : But n X w w := ⟨rfl, rfl, rfl, Nat.le_refl _, fun _ _ _ => rfl⟩
theorem But.trans (h : But n X a b) (k : But n X b c) : But n X a c := ⟨k.os.trans h.os, k.tape.trans h.tape, k.output.trans h.output, Nat.le_trans h.size k.size, fun i hi hx => (k.block i hi hx).trans (h.block i hi hx)⟩
theorem But.mono (h : But n X w w') (hm : m ≤ n) (hX : ∀ k, X k → k < m → Y k) : But m Y w w' := ⟨h.os, h.tape, h.output, h.size, fun k hk hy => h.block k (by omega) fun hx => hy (hX k hx hk)⟩
theorem But.of (h : Below n w w') (X : Nat → Prop) : But n X w w' := ⟨h.os, h.tape, h.output, h.size, fun k hk _ => h.block k hk⟩
theorem But.under (h : But n X w w') (hm : m ≤ n) (hX : ∀ k, X k → m ≤ k) : Below m w w' := ⟨h.os, h.tape, h.output, h.size, fun k hk => h.block k (by omega) fun hx => by have := hX k hx; omega⟩
theorem But.later (h : But n X a b) (hn : n ≤ b.heap.size) (k : But b.heap.size X b c) : But n X a c := h.trans (k.mono hn fun _ h _ => h)
theorem But.below (h : But n X a b) (hn : n ≤ b.heap.size) (k : Below b.heap.size b c) : But n X a c := h.later hn (But.of k X)
theorem But.alloc (h : But n X a w) (hn : n ≤ w.heap.size) (o : Obj) : But n X a (w.alloc o) := h.below hn ((Below.refl _ w).alloc (Nat.le_refl _) o)
theorem But.store (h : But n X a w) {k : Nat} (hk : X k ∨ n ≤ k) (j : Nat) (u : Value) : But n X a (w.setCell ⟨k, j, none⟩ u) :=
  h.trans ⟨rfl, rfl, rfl, by simp, fun i hi hx => heap_setCell_other _ _ _ _ fun e => by
    rcases hk with hk | hk
    · exact hx (e ▸ hk)
    · have : i = k := e
      omega⟩
theorem But.grown (h : But n X a w) {o : Option Nat} (hg : w.grownBy w' o) (ho : ∀ k, o = some k → X k ∨ n ≤ k) (hn : n ≤ w.heap.size) : But n X a w' :=
  h.trans ⟨hg.os, hg.tape, hg.output, hg.size, fun i hi hx => hg.block i (by omega) fun e => by
    rcases ho i e.symm with hk | hk
    · exact hx hk
    · omega⟩
theorem But.drew (h : But n X a w) : But n X a w.drew := ⟨h.os, h.tape, h.output, h.size, h.block⟩
end
/-- rows, one a place -/
def rowsN {α : Type} (t : TypeId) (f : α → Value) (n : Nat) (us : Nat → Value) (L : Nat → List α) : List R5 := (List.range n).map fun i => ⟨t, 1, us i, (L i).length, (L i).map f⟩
def upd {β : Type} (g : Nat → β) (i : Nat) (x : β) (j : Nat) : β := if j = i then x else g j
theorem upd_same {β : Type} (g : Nat → β) (i : Nat) (x : β) : upd g i x i = x := if_pos rfl
theorem upd_other {β : Type} (g : Nat → β) {i j : Nat} (x : β) (h : j ≠ i) : upd g i x j = g j := if_neg h
section
variable {α : Type} {t : TypeId} {f : α → Value} {n : Nat} {us : Nat → Value} {L L' : Nat → List α}
theorem rowsN_len : (rowsN t f n us L).length = n := by unfold rowsN; simp
theorem rowsN_get {i : Nat} (hi : i < n) : (rowsN t f n us L)[i]'(by rw [rowsN_len]; exact hi) = ⟨t, 1, us i, (L i).length, (L i).map f⟩ := by
  unfold rowsN
  rw [List.getElem_map, List.getElem_range]
theorem rowsN_mem {i : Nat} (hi : i < n) : (⟨t, 1, us i, (L i).length, (L i).map f⟩ : R5) ∈ rowsN t f n us L := by
  unfold rowsN
  exact List.mem_map.2 ⟨i, List.mem_range.2 hi, rfl⟩
theorem rowsN_set {i : Nat} (v : Value) (l : List α) (hL : ∀ j, L' j = if j = i then l else L j) : (rowsN t f n us L).set i ⟨t, 1, v, l.length, l.map f⟩ = rowsN t f n (upd us i v) L' := by
  refine List.ext_getElem (by rw [List.length_set, rowsN_len, rowsN_len]) fun j h1 h2 => ?_
  rw [rowsN_len] at h2
  rw [List.getElem_set, rowsN_get h2]
  by_cases e : i = j
  · subst e
    rw [if_pos rfl, rowsN_get h2, upd_same, hL, if_pos rfl]
  · rw [if_neg e, rowsN_get h2, upd_other _ _ (Ne.symm e), hL, if_neg (Ne.symm e)]
theorem rowsN_congr (h : ∀ j, j < n → L j = L' j) : rowsN t f n us L = rowsN t f n us L' := by
  unfold rowsN
  refine List.map_congr_left fun j hj => ?_
  rw [h j (List.mem_range.1 hj)]
end
/-- a table's cells, one a place -/
def cellsF (n : Nat) (us : Nat → Value) : Array Value := ((List.range n).map us).toArray
theorem cellsF_size (n : Nat) (us : Nat → Value) : (cellsF n us).size = n := by unfold cellsF; simp
theorem cellsF_get {n : Nat} (us : Nat → Value) {i : Nat} (hi : i < n) : (cellsF n us)[i]? = some (us i) := by
  unfold cellsF
  rw [List.getElem?_toArray, List.getElem?_map, List.getElem?_range hi]
  rfl
theorem cellsF_none {n : Nat} (us : Nat → Value) {i : Nat} (hi : n ≤ i) : (cellsF n us)[i]? = none := by
  rw [Array.getElem?_eq_none_iff, cellsF_size]
  exact hi
theorem cellsF_set {n : Nat} (us : Nat → Value) {i : Nat} (v : Value) : (cellsF n us).setIfInBounds i v = cellsF n (upd us i v) := by
  refine Array.ext_getElem? fun j => ?_
  rw [Array.getElem?_setIfInBounds, cellsF_size]
  by_cases hj : j < n
  · rw [cellsF_get _ hj]
    by_cases e : i = j
    · subst e; rw [if_pos rfl, if_pos hj, cellsF_get _ hj, upd_same]
    · rw [if_neg e, cellsF_get _ hj, upd_other _ _ (Ne.symm e)]
  · rw [cellsF_none _ (by omega)]
    by_cases e : i = j
    · subst e; rw [if_pos rfl, if_neg hj, cellsF_none _ (by omega)]
    · rw [if_neg e, cellsF_none _ (by omega)]
def TabAt (w : World) (B : Nat) (t : TypeId) (n : Nat) (us : Nat → Value) : Prop := w.heap[B]? = some (.cells (cellsF n us) t (0, 0))
section
variable {w w' : World} {B : Nat} {t : TypeId} {n : Nat} {us : Nat → Value}
theorem TabAt.lt (h : TabAt w B t n us) : B < w.heap.size := (Array.getElem?_eq_some_iff.1 h).1
theorem TabAt.cell (h : TabAt w B t n us) {i : Nat} (hi : i < n) : w.cell? ⟨B, i, none⟩ = some (us i) := (cell_of_row w B i _ _ _ h).trans (cellsF_get us hi)
theorem TabAt.frozen (h : TabAt w B t n us) (j : Nat) : w.frozen? ⟨B, j, none⟩ = false := frozen_of_row w B j _ _ h
theorem TabAt.at (h : TabAt w B t n us) (he : w'.heap[B]? = w.heap[B]?) : TabAt w' B t n us := he.trans h
theorem TabAt.alloc (h : TabAt w B t n us) (o : Obj) : TabAt (w.alloc o) B t n us := (heap_alloc_old w o h.lt).trans h
theorem TabAt.store (h : TabAt w B t n us) (i : Nat) (v : Value) : TabAt (w.setCell ⟨B, i, none⟩ v) B t n (upd us i v) := by
  unfold TabAt
  rw [heap_setCell_same _ _ _ _ _ _ h, cellsF_set]
theorem TabAt.other (h : TabAt w B t n us) {C j : Nat} (u : Value) (hne : B ≠ C) : TabAt (w.setCell ⟨C, j, none⟩ u) B t n us := (heap_setCell_other _ _ _ _ hne).trans h
theorem TabAt.grown (h : TabAt w B t n us) {o : Option Nat} (hg : w.grownBy w' o) (ho : o ≠ some B) : TabAt w' B t n us := (hg.block B h.lt (Ne.symm ho)).trans h
theorem TabAt.made (w : World) (t : TypeId) (n : Nat) (v : Value) : TabAt (w.alloc (.cells (Array.replicate n v) t)) w.heap.size t n (fun _ => v) := by
  refine (heap_alloc_new w _).trans ?_
  congr 2
  refine Array.ext_getElem? fun j => ?_
  rw [Array.getElem?_replicate]
  by_cases hj : j < n
  · rw [if_pos hj, cellsF_get _ hj]
  · rw [if_neg hj, cellsF_none _ (by omega)]
end
end Go.Proofs.YtmpjjnjggihojaaGreatDoor

/- A net made ready for being followed: its block of 13 cells, what lies behind them; a list of bytes in a far block. -/
namespace Go.Proofs.YtmpjjnjggihojaaGreatDoor
open Go.RowKit Go.Lib Go.Joins

theorem But.cell {n : Nat} {X : Nat → Prop} {w w' : World} (h : But n X w w') {p : Addr} (h1 : p.block < n) (h2 : ¬ X p.block) : w'.cell? p = w.cell? p := World.cell?_of_block (h.block _ h1 h2)
theorem TabAt.mk (w : World) (t : TypeId) (n : Nat) (v : Value) : TabAt (w.alloc (.cells (madeCells #[v] n) t)) w.heap.size t n (fun _ => v) := by
  have h := TabAt.made w t n v
  have e : madeCells #[v] n = Array.replicate n v := by
    refine Array.toList_inj.1 ?_
    rw [toList_madeCells_one, Array.toList_replicate]
  rw [e]
  exact h
theorem TabAt.mkAt {w : World} {B : Nat} (h : w.heap.size = B) (t : TypeId) (n : Nat) (v : Value) : TabAt (w.alloc (.cells (madeCells #[v] n) t)) B t n (fun _ => v) := by subst h; exact TabAt.mk w t n v
theorem TabAt.below {w w' : World} {B : Nat} {t : TypeId} {n : Nat} {us : Nat → Value} (h : TabAt w B t n us) (hb : Below w.heap.size w w') : TabAt w' B t n us := h.at (hb.block B h.lt)
theorem type_ne {w : World} {A B : Nat} {c c' : Array Value} {t t' : TypeId} {f f' : Nat × Nat} (h : w.heap[A]? = some (.cells c t f)) (h' : w.heap[B]? = some (.cells c' t' f')) (ht : t ≠ t') : A ≠ B := by
  rintro rfl
  rw [h] at h'
  simp only [Option.some.injEq, Obj.cells.injEq] at h'
  exact ht h'.2.1
theorem own_elR {w : World} {base : Nat} {v : Value} {l : List Int} (h : RowZ w base v l) : ElR (fun k => v.ownBlock = some k) w v l := by
  have h' := h
  rcases h.2 with ⟨rfl, h0⟩ | ⟨g, cap, cur, rfl, hb, hg, h1, h2, h3, h4⟩
  · exact ⟨none, 0, by rw [h0], by omega, by decide, fun _ => rfl, fun hp => by omega⟩
  · refine ⟨some ⟨g, 0, none⟩, cap, rfl, h1, h2, (fun e => by cases e), fun _ => ⟨g, 0, rfl, rfl, fun i hi => ?_⟩⟩
    rw [Nat.zero_add, World.ownsRow.cellAt h' i (by omega), List.getElem?_map, List.getD_eq_getElem?_getD, List.getElem?_eq_getElem hi]
    rfl
/-- a slice of bytes in a block of this kind -/
def ElB (P : Nat → Prop) (w : World) (v : Value) (l : List Nat) : Prop := ∃ a cap, v = .slice a l.length cap ∧ l.length ≤ cap ∧ cap ≤ maxLen ∧ (a = none → cap = 0) ∧ (0 < l.length → ∃ b off, a = some ⟨b, off, none⟩ ∧ P b ∧ ∀ i, i < l.length → w.cell? ⟨b, off + i, none⟩ = some (.int .u8 ((l.getD i 0 : Nat) : Int)))
theorem ElB.mono {P P' : Nat → Prop} {w w' : World} {v : Value} {l : List Nat} (h : ElB P w v l) (hk : ∀ k, P k → P' k ∧ w'.heap[k]? = w.heap[k]?) : ElB P' w' v l := by
  obtain ⟨a, cap, rfl, h1, h2, h3, h4⟩ := h
  refine ⟨a, cap, rfl, h1, h2, h3, fun hp => ?_⟩
  obtain ⟨b, off, e, hP, hc⟩ := h4 hp
  exact ⟨b, off, e, (hk b hP).1, fun i hi => (World.cell?_of_block (a := ⟨b, off + i, none⟩) (hk b hP).2).trans (hc i hi)⟩
def byC (c : Nat) : Value := .int .u8 (c : Int)
theorem own_elB {w : World} {base : Nat} {v : Value} {l : List Nat} (h : w.ownsRow base 5 1 v l.length (l.map byC)) : ElB (fun k => v.ownBlock = some k) w v l := by
  have h' := h
  rcases h.2 with ⟨rfl, h0⟩ | ⟨g, cap, cur, rfl, hb, hg, h1, h2, h3, h4⟩
  · exact ⟨none, 0, by rw [h0], by omega, by decide, fun _ => rfl, fun hp => by omega⟩
  · refine ⟨some ⟨g, 0, none⟩, cap, rfl, h1, h2, (fun e => by cases e), fun _ => ⟨g, 0, rfl, rfl, fun i hi => ?_⟩⟩
    rw [Nat.zero_add, World.ownsRow.cellAt h' i (by omega), List.getElem?_map, List.getD_eq_getElem?_getD, List.getElem?_eq_getElem hi]
    rfl
/-- the net without what follows, read -/
theorem rd_bare {w : World} {e0 BF : Nat} {vs vo vl vf v1 b1 : Value} {N : NetM} {G : Nat → Prop} (hnet : RdNet e0 w vs vo vl vf v1 N) (hbare : TabAt w BF 23 N.sets.length (fun _ => .slice none 0 0)) (hfirst : ElR G w b1 (spI (List.range N.sets.length))) (hG : ∀ k, G k → k < w.heap.size) (hn : N.sets.length ≤ maxLen) (he : e0 ≤ w.heap.size) :
    RdNet w.heap.size w vs vo vl (.slice (some ⟨BF, 0, none⟩) N.sets.length N.sets.length) b1 (bareN N) := by
  have hb := Below.refl e0 w
  refine ⟨hnet.sets.below hb he, hnet.of.below hb he, hnet.last.below hb he, ?_, ?_⟩
  · refine ⟨some ⟨BF, 0, none⟩, N.sets.length, by simp [bareN], by simp [bareN], hn, (fun e => by cases e), fun _ => ⟨BF, 0, rfl, hbare.lt, fun i hi => ?_⟩⟩
    have hi' : i < N.sets.length := by simpa [bareN] using hi
    refine ⟨.slice none 0 0, by rw [Nat.zero_add]; exact hbare.cell hi', ?_⟩
    have e : (bareN N).fol.getD i [] = [] := by
      show (List.replicate N.sets.length ([] : List Int)).getD i [] = []
      rw [List.getD_eq_getElem?_getD, List.getElem?_replicate]
      split <;> rfl
    rw [e]
    exact ⟨none, 0, rfl, Nat.le_refl _, by decide, fun _ => rfl, fun hp => absurd hp (by simp)⟩
  · obtain ⟨a, cap, e, k1, k2, k3, k4⟩ := hfirst
    exact ⟨a, cap, e, k1, k2, k3, fun hp => by
      obtain ⟨b, off, e, hPb, hc⟩ := k4 hp
      exact ⟨b, off, e, hG b hPb, hc⟩⟩
/-- the block of a net that is ready, and all that it leads to but what has been seen: in far blocks -/
structure PathR (G : Nat → Prop) (e0 : Nat) (w : World) (P CB BF SB : Nat) (vs vo vl vf v1 b1 : Value) (us : Nat → Value) (K : Nat → List Nat) (N : NetM) : Prop where
  obj : w.heap[P]? = some (.cells #[vs, vo, vl, vf, v1, vs, vo, vl, .slice (some ⟨BF, 0, none⟩) N.sets.length N.sets.length, b1, .slice (some ⟨CB, 0, none⟩) N.sets.length N.sets.length, .int .i64 (widN N), .slice (some ⟨SB, 0, none⟩) N.sets.length N.sets.length] 90 (0, 0))
  net : RdNet e0 w vs vo vl vf v1 N
  bare : TabAt w BF 23 N.sets.length (fun _ => .slice none 0 0)
  first : ElR G w b1 (spI (List.range N.sets.length))
  cls : TabAt w CB 59 N.sets.length us
  el : ∀ q, q < N.sets.length → ElB G w (us q) (K q)
  far : G P ∧ G BF ∧ G CB ∧ ¬ G SB
  low : ∀ k, k < e0 → G k
def SeenAt (w : World) (SB n : Nat) (T : Nat → Int) : Prop := TabAt w SB 3 n (fun q => .int .i64 (T q))
theorem SeenAt.store {w : World} {SB n : Nat} {T : Nat → Int} (h : SeenAt w SB n T) (q : Nat) (x : Int) : SeenAt (w.setCell ⟨SB, q, none⟩ (.int .i64 x)) SB n (upd T q x) := by
  have h2 := TabAt.store h q (.int .i64 x)
  have e : upd (fun q => Value.int .i64 (T q)) q (.int .i64 x) = fun p => Value.int .i64 (upd T q x p) := by
    funext p
    unfold upd
    split <;> rfl
  rw [e] at h2
  exact h2
section
variable {G : Nat → Prop} {e0 P CB BF SB : Nat} {w w' : World} {vs vo vl vf v1 b1 : Value} {us : Nat → Value} {K : Nat → List Nat} {N : NetM}
theorem PathR.lo (h : PathR G e0 w P CB BF SB vs vo vl vf v1 b1 us K N) : e0 ≤ SB := Nat.le_of_not_lt fun hlt => h.far.2.2.2 (h.low SB hlt)
theorem PathR.kept (h : PathR G e0 w P CB BF SB vs vo vl vf v1 b1 us K N) (hk : ∀ k, G k → w'.heap[k]? = w.heap[k]?) (hb : Below e0 w w') : PathR G e0 w' P CB BF SB vs vo vl vf v1 b1 us K N :=
  ⟨(hk P h.far.1).trans h.obj, h.net.below hb (Nat.le_refl _), h.bare.at (hk BF h.far.2.1), h.first.mono fun k hg => ⟨hg, hk k hg⟩, h.cls.at (hk CB h.far.2.2.1), fun q hq => (h.el q hq).mono fun k hg => ⟨hg, hk k hg⟩, h.far, h.low⟩
/-- by a frame that leaves the far blocks alone -/
theorem PathR.but (h : PathR G e0 w P CB BF SB vs vo vl vf v1 b1 us K N) {n : Nat} {X : Nat → Prop} (hb : But n X w w') (hG : ∀ k, G k → k < n ∧ ¬ X k) : PathR G e0 w' P CB BF SB vs vo vl vf v1 b1 us K N :=
  h.kept (fun k hk => hb.block k (hG k hk).1 (hG k hk).2) ⟨hb.os, hb.tape, hb.output, hb.size, fun k hk => hb.block k (hG k (h.low k hk)).1 (hG k (h.low k hk)).2⟩
end
/-- rising spots below n: at most n -/
theorem nodup_len {m : List Int} (hn : m.Nodup) {n : Nat} (hr : ∀ x ∈ m, 0 ≤ x ∧ x < (n : Int)) : m.length ≤ n := by
  have hs : (m.mergeSort fun x y => decide (x ≤ y)).Pairwise fun x y => x ≤ y := by
    have := List.pairwise_mergeSort (le := fun x y : Int => decide (x ≤ y)) (by intro a b c; simp; omega) (by intro a b; simp; omega) m
    exact this.imp fun h => by simpa using h
  have hp := List.mergeSort_perm m fun x y => decide (x ≤ y)
  have hd : (m.mergeSort fun x y => decide (x ≤ y)).Nodup := hp.nodup_iff.2 hn
  have e : (m.mergeSort fun x y => decide (x ≤ y)) = spI (hits (fun q => decide ((q : Int) ∈ m)) n) := by
    refine zup_ext ((List.pairwise_and_iff.2 ⟨hs, hd⟩).imp fun h => by omega) (spI_up (hits_up _ _)) fun x => ?_
    rw [hp.mem_iff, mem_spIZ]
    constructor
    · intro hx
      have := hr x hx
      exact ⟨x.toNat, by omega, (hits_mem _ _ _).2 ⟨by omega, by rw [decide_eq_true_eq, show ((x.toNat : Nat) : Int) = x by omega]; exact hx⟩⟩
    · rintro ⟨p, rfl, hp2⟩
      simpa using ((hits_mem _ _ _).1 hp2).2
  have h2 := congrArg List.length e
  rw [List.length_mergeSort, spI_len] at h2
  have := hits_len (fun q => decide ((q : Int) ∈ m)) n
  omega
/-- what has been met, and what has been seen -/
structure Met (N : NetM) (l : List Int) (st : Int) (k j : Nat) (m : List Int) (T : Nat → Int) : Prop where
  nd : m.Nodup
  mem : ∀ x, x ∈ m ↔ MetL N l k j x
  seen : ∀ q, q < N.sets.length → T q ≤ st ∧ (T q = st ↔ (q : Int) ∈ m)
  rng : ∀ x ∈ m, 0 ≤ x ∧ x < (N.sets.length : Int)
section
variable {N : NetM} {l : List Int} {st : Int} {k j : Nat} {m : List Int} {T : Nat → Int}
theorem Met.len (h : Met N l st k j m T) : m.length ≤ N.sets.length := nodup_len h.nd h.rng
theorem Met.start (N : NetM) (l : List Int) {st : Int} {T : Nat → Int} (h : ∀ q, q < N.sets.length → T q < st) : Met N l st 0 0 [] T :=
  ⟨List.nodup_nil, fun x => ⟨fun h => by simp at h, fun h => absurd h (MetL.start N l x)⟩, fun q hq => ⟨Int.le_of_lt (h q hq), fun e => by have := h q hq; omega, fun h => by simp at h⟩, fun x hx => by simp at hx⟩
theorem Met.next (h : Met N l st k (N.fol.getD (l.getD k 0).toNat []).length m T) : Met N l st (k + 1) 0 m T := ⟨h.nd, fun x => (h.mem x).trans (MetL.next N l k x), h.seen, h.rng⟩
theorem Met.old (h : Met N l st k j m T) (hj : j < (N.fol.getD (l.getD k 0).toNat []).length) {q : Nat} (hq : (N.fol.getD (l.getD k 0).toNat []).getD j 0 = (q : Int)) (hn : q < N.sets.length) (ht : T q = st) : Met N l st k (j + 1) m T :=
  ⟨h.nd, fun x => by
    rw [MetL.more N l k j hj, hq, ← h.mem]
    exact ⟨.inl, fun h2 => h2.elim id fun e => e ▸ ((h.seen q hn).2.1 ht)⟩, h.seen, h.rng⟩
theorem Met.new (h : Met N l st k j m T) (hj : j < (N.fol.getD (l.getD k 0).toNat []).length) {q : Nat} (hq : (N.fol.getD (l.getD k 0).toNat []).getD j 0 = (q : Int)) (hn : q < N.sets.length) (ht : T q ≠ st) : Met N l st k (j + 1) (m ++ [(q : Int)]) (upd T q st) := by
  have hnot : (q : Int) ∉ m := fun e => ht ((h.seen q hn).2.2 e)
  refine ⟨?_, fun x => ?_, fun p hp => ?_, fun x hx => ?_⟩
  · rw [List.nodup_append]
    exact ⟨h.nd, by simp, fun a ha b hb => by
      simp only [List.mem_singleton] at hb
      subst hb
      exact fun e => hnot (e ▸ ha)⟩
  · rw [MetL.more N l k j hj, hq, ← h.mem, List.mem_append, List.mem_singleton]
  · by_cases e : p = q
    · subst e
      rw [upd_same]
      exact ⟨Int.le_refl _, fun _ => by simp, fun _ => rfl⟩
    · rw [upd_other _ _ e]
      refine ⟨(h.seen p hp).1, fun h2 => List.mem_append.2 (.inl ((h.seen p hp).2.1 h2)), fun h2 => ?_⟩
      rcases List.mem_append.1 h2 with h2 | h2
      · exact (h.seen p hp).2.2 h2
      · simp only [List.mem_singleton] at h2
        omega
  · rcases List.mem_append.1 hx with hx | hx
    · exact h.rng x hx
    · simp only [List.mem_singleton] at hx
      subst hx
      omega
end
end Go.Proofs.YtmpjjnjggihojaaGreatDoor

/- Contract of after: what follows the spots of a list, each once, sorted. -/
namespace Go.Proofs.YtmpjjnjggihojaaGreatDoor
open Go.RowKit Go.Lib Go.Joins Go.Sort

theorem row_parts {w : World} {base g n cap : Nat} {l : List Int} (h : RowZ w base (.slice (some ⟨g, 0, none⟩) n cap) l) : ∃ cur, n = l.length ∧ base ≤ g ∧ w.heap[g]? = some (.cells cur 3 (0, 0)) ∧ l.length ≤ cap ∧ cap ≤ maxLen ∧ cur.size = cap * 1 ∧ cur.toList.take l.length = l.map (Value.int .i64) := by
  rcases h.2 with ⟨e, _⟩ | ⟨g', cap', cur, e, hb, hg, h1, h2, h3, h4⟩
  · cases e
  · simp only [Value.slice.injEq, Option.some.injEq, Addr.mk.injEq, and_true] at e
    obtain ⟨rfl, rfl, rfl⟩ := e
    exact ⟨cur, rfl, hb, hg, h1, h2, h3, by simpa using h4⟩
/-- a row of the call's own is sorted, whatever it is -/
theorem sort_any {w : World} {base : Nat} {v : Value} {l : List Int} (h : RowZ w base v l) (hl : l.length ≤ 100000) :
    Calls Tryz.prog 97 #[v] w fun e w' => e = .returned (.tuple #[]) ∧ RowZ w' base v (l.mergeSort fun x y => decide (x ≤ y)) ∧ w.grownBy w' v.ownBlock := by
  rcases h.2 with ⟨rfl, h0⟩ | ⟨g, cap, cur0, rfl, _⟩
  · have e : l = [] := List.eq_nil_of_length_eq_zero h0
    subst e
    refine (Go.Proofs.Tryz.slices_Sort_int_none _ _ _).mono ?_
    rintro e w1 ⟨rfl, rfl⟩
    exact ⟨rfl, by rw [List.mergeSort_nil]; exact h, World.grownBy.refl _ _⟩
  · obtain ⟨cur, _, hb, hg, h1, h2, h3, h4⟩ := row_parts h
    refine (Go.Proofs.Tryz.slices_Sort_int g 0 cap l w (holds_of_blockI hg h4) (Array.getElem?_eq_some_iff.1 hg).1 (by omega)).mono ?_
    rintro e w' ⟨rfl, q, os, rfl⟩
    have hlen : (l.mergeSort fun x y => decide (x ≤ y)).length = l.length := List.length_mergeSort l
    refine ⟨rfl, ?_, grownBy_sortedI _⟩
    have := ownsRow_sortedI (w := w) (n := q) (os := os) hlen hb hg h1 h2 h3
    unfold RowZ
    rw [hlen]
    exact this
section
variable {G : Nat → Prop} {e0 P CB BF SB : Nat} {w : World} {vs vo vl vf v1 b1 : Value} {us : Nat → Value} {K : Nat → List Nat} {N : NetM}
/-- the cells that after reads of the object -/
theorem PathR.cells (h : PathR G e0 w P CB BF SB vs vo vl vf v1 b1 us K N) : w.cell? ⟨P, 3, none⟩ = some vf ∧ w.cell? ⟨P, 4, none⟩ = some v1 ∧ w.cell? ⟨P, 10, none⟩ = some (.slice (some ⟨CB, 0, none⟩) N.sets.length N.sets.length) ∧ w.cell? ⟨P, 11, none⟩ = some (.int .i64 (widN N)) ∧ w.cell? ⟨P, 12, none⟩ = some (.slice (some ⟨SB, 0, none⟩) N.sets.length N.sets.length) :=
  ⟨cell_of_row _ _ 3 _ _ _ h.obj, cell_of_row _ _ 4 _ _ _ h.obj, cell_of_row _ _ 10 _ _ _ h.obj, cell_of_row _ _ 11 _ _ _ h.obj, cell_of_row _ _ 12 _ _ _ h.obj⟩
end
/-- the loop's state -/
def Aft (w : World) (SB : Nat) (N : NetM) (l : List Int) (st : Int) (k j : Nat) (v : Value) (m : List Int) (T : Nat → Int) (wr : World) : Prop :=
  RowZ wr w.heap.size v m ∧ But w.heap.size (fun k => k = SB) w wr ∧ SeenAt wr SB N.sets.length T ∧ Met N l st k j m T
set_option maxHeartbeats 8000000 in
set_option maxRecDepth 100000 in
theorem after_calls {G : Nat → Prop} {e0 P CB BF SB : Nat} {w : World} {vs vo vl vf v1 b1 : Value} {us : Nat → Value} {K : Nat → List Nat} {N : NetM} (h : PathR G e0 w P CB BF SB vs vo vl vf v1 b1 us K N) (hG : ∀ k, G k → k < w.heap.size)
    (hR : rightB N = true) (hn : N.sets.length ≤ 900) {T : Nat → Int} (hS : SeenAt w SB N.sets.length T) {st : Nat} (hT : ∀ q, q < N.sets.length → T q < st) {sv : Value} {l : List Int} (hl : ElR G w sv l) (hr : ∀ x ∈ l, 0 ≤ x ∧ x < (N.sets.length : Int)) :
    Calls Tryz.prog 74 #[.pointer (some ⟨P, 0, none⟩), .int .i64 st, sv] w fun e w' => ∃ v T', e = .returned v ∧ RowZ w' w.heap.size v (spI (hits (nextB N l) N.sets.length)) ∧ But w.heap.size (fun k => k = SB) w w' ∧ SeenAt w' SB N.sets.length T' ∧ ∀ q, q < N.sets.length → T' q ≤ st := by
  have hGX : ∀ k, G k → k < w.heap.size ∧ k ≠ SB := fun k hk => ⟨hG k hk, fun e => h.far.2.2.2 (e ▸ hk)⟩
  obtain ⟨⟨_, _, hfl⟩, _, _⟩ := (rightB_iff N).1 hR
  obtain ⟨fa, fc, rfl⟩ := h.net.fol.form
  obtain ⟨sa, sc, rfl⟩ : ∃ a c, sv = .slice a l.length c := by obtain ⟨a, c, e, _⟩ := hl; exact ⟨a, c, e⟩
  have hsb : SB < w.heap.size := hS.lt
  have hlm : l.length ≤ 9223372036854775807 := by
    obtain ⟨_, _, _, h1, h2, _⟩ := hl
    unfold maxLen at h2
    omega
  have HC := hidden (fun W (hb : But w.heap.size (fun k => k = SB) w W) => (h.but hb hGX).cells)
  have HL := hidden (fun k (hk : k < l.length) => (show ∃ b off, sa = some ⟨b, off, none⟩ ∧ ∃ p : Nat, l.getD k 0 = p ∧ p < N.sets.length ∧ ∀ W, But w.heap.size (fun k => k = SB) w W → W.cell? ⟨b, off + k, none⟩ = some (.int .i64 (p : Int)) from by
    obtain ⟨a', c', e, _, _, _, k4⟩ := hl
    simp only [Value.slice.injEq] at e
    obtain ⟨rfl, _, _⟩ := e
    obtain ⟨b, off, e, hGb, hc⟩ := k4 (by omega)
    have hg : l.getD k 0 = l[k] := by rw [List.getD_eq_getElem?_getD, List.getElem?_eq_getElem hk]; rfl
    have hb := hr _ (List.getElem_mem hk)
    refine ⟨b, off, e, (l[k]).toNat, by rw [hg]; omega, by omega, fun W hbW => ?_⟩
    rw [hbW.cell (p := ⟨b, off + k, none⟩) (hGX b hGb).1 (hGX b hGb).2, hc k hk, hg]
    congr 2
    omega))
  have HF := hidden (fun p (hp : p < N.sets.length) => (show ∃ b off a' c', fa = some ⟨b, off, none⟩ ∧ (∀ W, But w.heap.size (fun k => k = SB) w W → W.cell? ⟨b, off + p, none⟩ = some (.slice a' (N.fol.getD p []).length c')) ∧
      ∀ j, j < (N.fol.getD p []).length → ∃ b' off', a' = some ⟨b', off', none⟩ ∧ ∃ q : Nat, (N.fol.getD p []).getD j 0 = q ∧ q < N.sets.length ∧ ∀ W, But w.heap.size (fun k => k = SB) w W → W.cell? ⟨b', off' + j, none⟩ = some (.int .i64 (q : Int)) from by
    obtain ⟨b, off, a', c', e, hb, hc, hz⟩ := h.net.fol.at (Below.refl _ _) p (by omega)
    have hgb := hGX b (h.low b hb)
    refine ⟨b, off, a', c', e, fun W hbW => ?_, fun j hj => ?_⟩
    · rw [hbW.cell (p := ⟨b, off + p, none⟩) hgb.1 hgb.2, hc]
    · obtain ⟨b', off', e', hb', hc'⟩ := hz.atZ (Below.refl _ _) j hj
      have hgb' := hGX b' (h.low b' hb')
      have hx := (right_fol hR p hp).2 ((N.fol.getD p [])[j]) (List.getElem_mem hj)
      have hg : (N.fol.getD p []).getD j 0 = (N.fol.getD p [])[j] := by rw [List.getD_eq_getElem?_getD (l := N.fol.getD p []), List.getElem?_eq_getElem hj]; rfl
      refine ⟨b', off', e', ((N.fol.getD p [])[j]).toNat, by rw [hg]; omega, by omega, fun W hbW => ?_⟩
      rw [hbW.cell (p := ⟨b', off' + j, none⟩) hgb'.1 hgb'.2, hc', hg]
      congr 2
      omega))
  have HST := hidden (show Aft w SB N l st 0 0 (.slice none 0 0) [] T w from ⟨RowZ.nil _ _, But.refl _ _ _, hS, Met.start N l hT⟩)
  have HFIN := hidden (fun m (hn : m.Nodup) (hm : ∀ x, x ∈ m ↔ MetL N l l.length 0 x) => met_sorted hR hr hn hm)
  have HLN := hidden (fun p (hp : p < N.sets.length) => (show (N.fol.getD p []).length ≤ 900 from by
    have h1 := ((rightB_iff N).1 hR).2.2 p hp
    unfold rowB spotsB upB at h1
    simp only [Bool.and_eq_true, decide_eq_true_eq] at h1
    have hu : Up (N.fol.getD p []) := h1.2.1
    exact Nat.le_trans (nodup_len (List.Pairwise.imp (fun h => by omega) hu) (right_fol hR p hp).2) hn))
  obtain ⟨ns, hns⟩ : ∃ ns, ns = N.sets.length := ⟨_, rfl⟩
  obtain ⟨nf, hnf⟩ : ∃ nf, nf = N.fol.length := ⟨_, rfl⟩
  obtain ⟨lv, hlv⟩ : ∃ lv, lv = l.length := ⟨_, rfl⟩
  have HNF := hidden (show nf = ns by omega)
  have HNS := hidden hns
  rw [← hns] at HC HL HF HLN hn ⊢
  rw [← hnf] at HC
  rw [← hlv] at HL HFIN hlm ⊢
  clear h hG hGX hS hT hl hr hR hfl hns hnf hlv
  go_enter Tryz.func74, Tryz.ntmps74
  go_wp2
  go_loopw [7, 14] (fun v i wr => ∃ (k : Nat) (o : Value) (m : List Int) (T : Nat → Int), k ≤ lv ∧ o = v ∧ i = .int .i64 k ∧ Aft w SB N l st k 0 o m T wr) (fun _ i _ => lv - (Go.RowKit.intOf i).toNat)
  case atStart => exact ⟨0, _, _, _, by omega, rfl, rfl, HST.out⟩
  case round =>
    clear HST
    obtain ⟨k, o, m, T, hk, rfl, rfl, hA⟩ := hrel
    have HA := hidden hA
    have HB := hidden hA.2.1
    obtain ⟨oa, oc, rfl⟩ := hA.1.form
    clear hA
    obtain ⟨c3, _, _, _, _⟩ := HC.out wr HB.out
    by_cases hlt : k < lv
    · obtain ⟨b, off, rfl, p, hp, hps, hcp⟩ := HL.out k hlt
      have c0 := hcp wr HB.out
      obtain ⟨bf, of, af, cf, rfl, hcf, hcj⟩ := HF.out p hps
      have c1 := hcf wr HB.out
      have HCJ := hidden hcj
      have HP := hidden hp
      have hpf : (p : Int) < (nf : Int) := by have := HNF.out; omega
      obtain ⟨lf, hlf⟩ : ∃ n, n = (N.fol.getD p []).length := ⟨_, rfl⟩
      have HLF := hidden hlf
      have hl9 := HLN.out p hps
      rw [← hlf] at c1 HCJ hl9
      clear hcp hcf hcj hp hlf
      obtain ⟨wo, rfl⟩ : ∃ wo : World, wo = wr := ⟨_, rfl⟩
      go_wp2
      go_loopw [7, 27] (fun v i wr => ∃ (j : Nat) (o : Value) (m : List Int) (T : Nat → Int), j ≤ lf ∧ o = v ∧ i = .int .i64 j ∧ Aft w SB N l st k j o m T wr) (fun _ i _ => lf - (Go.RowKit.intOf i).toNat)
      case atStart => exact ⟨0, _, _, _, by omega, rfl, rfl, HA.out⟩
      case round =>
        obtain ⟨j, o, m2, T2, hj, rfl, rfl, hA2⟩ := hrel
        have HA2 := hidden hA2
        have HB2 := hidden hA2.2.1
        obtain ⟨oa2, oc2, rfl⟩ := hA2.1.form
        clear hA2
        obtain ⟨c3, _, _, _, c12⟩ := HC.out wr HB2.out
        by_cases hjt : j < lf
        · obtain ⟨b', off', rfl, q, hq, hqs, hcq⟩ := HCJ.out j hjt
          have d0 := hcq wr HB2.out
          have hsn := HA2.out.2.2.1
          unfold SeenAt at hsn
          rw [← HNS.out] at hsn
          have d1 := hsn.cell hqs
          have df := hsn.frozen q
          have hqi : (q : Int) < (ns : Int) := by omega
          have HQ := hidden (show (N.fol.getD (l.getD k 0).toNat []).getD j 0 = (q : Int) by rw [HP.out, Int.toNat_natCast]; exact hq)
          have HJ := hidden (show j < (N.fol.getD (l.getD k 0).toNat []).length by rw [HP.out, Int.toNat_natCast, ← HLF.out]; exact hjt)
          have HQN := hidden (show q < N.sets.length by rw [← HNS.out]; exact hqs)
          clear hcq hq hsn
          by_cases hts : T2 q = st
          · have HM := hidden (HA2.out.2.2.2.old HJ.out HQ.out HQN.out hts)
            rw [hts] at d1
            clear hts
            go_wp2
            go_roundw
            case rel => exact ⟨j + 1, _, _, _, by omega, rfl, by go_num, HA2.out.1, HB2.out, HA2.out.2.2.1, HM.out⟩
            case measure => simp [Go.RowKit.intOf]; omega
          · have HM := hidden (HA2.out.2.2.2.new HJ.out HQ.out HQN.out hts)
            have hd : decide (T2 q = (st : Int)) = false := decide_eq_false hts
            have hd2 : (T2 q == (st : Int)) = false := by simpa using hts
            have hd3 : (T2 q != (st : Int)) = true := by simpa using hts
            have HLM := hidden HA2.out.2.2.2.len
            have hrow : RowZ (wr.setCell ⟨SB, q, none⟩ (.int .i64 st)) w.heap.size (.slice oa2 m2.length oc2) m2 := World.ownsRow.kept HA2.out.1 ⟨rfl, rfl, rfl, by simp, fun k _ hne => heap_setCell_other _ _ _ _ fun e => hne (by rw [e])⟩ (.inr fun e => by
              have h5 : w.heap.size ≤ SB := (HA2.out.1.lt _ e).1
              omega)
            have HSN := hidden (HA2.out.2.2.1.store q st)
            have HB3 := hidden (HB2.out.store (k := SB) (.inl rfl) q (.int .i64 st))
            have HRW := hidden hrow
            obtain ⟨mq, hmq⟩ : ∃ n, n = m2.length := ⟨_, rfl⟩
            have HMQ := hidden hmq.symm
            rw [← hmq] at HRW ⊢
            have hm9 : mq ≤ 900 := by have := HLM.out; have := HNS.out; have := HMQ.out; omega
            have HAA := hidden (HRW.out.kept ((Below.refl (wr.setCell ⟨SB, q, none⟩ (.int .i64 st)).heap.size (wr.setCell ⟨SB, q, none⟩ (.int .i64 st))).alloc (Nat.le_refl _) (.cells #[.int .i64 (q : Int)] 3)))
            have HBB := hidden (HB3.out.alloc HB3.out.size (.cells #[.int .i64 (q : Int)] 3))
            have HSS := hidden (TabAt.alloc HSN.out (.cells #[.int .i64 (q : Int)] 3))
            have HX := hidden (show ((wr.setCell ⟨SB, q, none⟩ (.int .i64 st)).alloc (.cells #[.int .i64 (q : Int)] 3)).heap[wr.heap.size]? = some (.cells #[.int .i64 (q : Int)] 3 (0, 0)) from by
              have hx := heap_alloc_new (wr.setCell ⟨SB, q, none⟩ (.int .i64 st)) (.cells #[.int .i64 (q : Int)] 3)
              rwa [show (wr.setCell ⟨SB, q, none⟩ (.int .i64 st)).heap.size = wr.heap.size by simp] at hx)
            have HBL := hidden (show w.heap.size ≤ ((wr.setCell ⟨SB, q, none⟩ (.int .i64 st)).alloc (.cells #[.int .i64 (q : Int)] 3)).heap.size by have := HB2.out.size; simp; omega)
            clear hrow hmq hts
            go_wp2_with (at_builtin; refine app_z rfl _ _ rfl rfl HAA.out rfl HX.out HMQ.out (by omega) HBL.out ?_; intro g' c3 w4 hr4 hg4 hb4; have HR4 := hidden hr4; have HB4 := hidden (HBB.out.trans (But.of hb4 _)); have HS4 := hidden (TabAt.at HSS.out (hb4.block SB hsb)); clear hr4 hg4 hb4)
            go_roundw
            case rel => exact ⟨j + 1, _, _, _, by omega, rfl, by go_num, HR4.out, HB4.out, HS4.out, HM.out⟩
            case measure => simp [Go.RowKit.intOf]; omega
        · obtain rfl : j = lf := by omega
          go_wp2
          go_roundw
          case rel => 
            refine ⟨k + 1, _, _, _, by omega, rfl, by go_num, HA2.out.1, HB2.out, HA2.out.2.2.1, ?_⟩
            have := HA2.out.2.2.2
            rw [HLF.out, show p = (l.getD k 0).toNat by rw [HP.out]; rfl] at this
            exact this.next
          case measure => simp [Go.RowKit.intOf]; omega
    · obtain rfl : k = lv := by omega
      have HLM := hidden HA.out.2.2.2.len
      obtain ⟨mq, hmq⟩ : ∃ n, n = m.length := ⟨_, rfl⟩
      rw [← hmq] at HLM
      have HRW := hidden HA.out.1
      rw [← hmq] at HRW ⊢
      have HMQ := hidden hmq.symm
      clear hmq
      go_wp2_with fail
      refine (sort_any HRW.out (by have := HLM.out; have := HNS.out; have := HMQ.out; omega)).mono ?_
      rintro e w5 ⟨rfl, hr5, hg5⟩
      have HR5 := hidden hr5
      have HB5 := hidden (HB.out.grown hg5 (fun k e => .inr ((HRW.out.lt k e).1)) HB.out.size)
      have HS5 := hidden (HA.out.2.2.1.grown hg5 (fun e => by have := (HRW.out.lt SB e).1; omega))
      clear hr5 hg5
      go_wp2
      go_ret
      refine ⟨_, _, rfl, ?_, HB5.out, by rw [HNS.out]; exact HS5.out, fun q hq => (HA.out.2.2.2.seen q (by rw [← HNS.out]; exact hq)).1⟩
      rw [HNS.out, ← HFIN.out m HA.out.2.2.2.nd HA.out.2.2.2.mem]
      exact HR5.out
end Go.Proofs.YtmpjjnjggihojaaGreatDoor
