/- FuAdd, FuFuse, DfOwn, DfPut, put together. -/
import Derived.Test.YtgaadndhecokfaaMu18
import Derived.Deep.RegionLaw
import Derived.Deep.Cut
import Derived.Deep.CutRange
import Derived.Test.YtgaadndhecokfaaMu13
import Derived.Laws.ResultCell
import Derived.Laws.CopyRow
/- Contract of add. -/
namespace Go.Proofs.Ytgaadndhecokfaa
open Go.RowKit Go.Lib Go.Joins
theorem sp_le (f : Nat → Bool) : (spI (elems f)).length ≤ 256 := by rw [spI_len]; exact elems_le f
end Go.Proofs.Ytgaadndhecokfaa

/- Tokens as they are read, and the contract of Fuse. -/
namespace Go.Proofs.Ytgaadndhecokfaa
open Go.RowKit Go.Lib Go.Joins
/-- a slice of tokens whose expressions read as these -/
def Toks (C : Nat → Prop) (w : World) (v : Value) (T : List (List Stp)) : Prop := ∃ a cap, v = .slice a T.length cap ∧ T.length ≤ cap ∧ cap ≤ maxLen ∧ (0 < T.length → ∃ b off, a = some ⟨b, off, none⟩ ∧ C b ∧ ∀ i, i < T.length → ∃ u, w.cell? ⟨b, off + i * 3 + 1, none⟩ = some u ∧ SlX C w u (T.getD i []))
theorem Toks.below {C C' : Nat → Prop} {w w' : World} {v : Value} {T : List (List Stp)} (h : Toks C w v T) (hb : ∀ b, C b → C' b ∧ w'.heap[b]? = w.heap[b]?) : Toks C' w' v T := by
  obtain ⟨a, cap, rfl, h1, h2, h3⟩ := h
  refine ⟨a, cap, rfl, h1, h2, fun hp => ?_⟩
  obtain ⟨b, off, e, hC, hc⟩ := h3 hp
  refine ⟨b, off, e, (hb b hC).1, fun i hi => ?_⟩
  obtain ⟨u, hu, hr⟩ := hc i hi
  exact ⟨u, (World.cell?_of_block (a := ⟨b, off + i * 3 + 1, none⟩) (hb b hC).2).trans hu, hr.below hb⟩
theorem Toks.at {C C' : Nat → Prop} {w w' : World} {a : Option Addr} {n c : Nat} {T : List (List Stp)} (h : Toks C w (.slice a n c) T) (hb : ∀ b, C b → C' b ∧ w'.heap[b]? = w.heap[b]?) (i : Nat) (hi : i < T.length) :
    ∃ b off a' c', a = some ⟨b, off, none⟩ ∧ C' b ∧ w'.cell? ⟨b, off + i * 3 + 1, none⟩ = some (.slice a' (T.getD i []).length c') ∧ SlX C' w' (.slice a' (T.getD i []).length c') (T.getD i []) := by
  obtain ⟨a', cap, e, h1, h2, h3⟩ := h.below hb
  simp only [Value.slice.injEq] at e
  obtain ⟨rfl, rfl, rfl⟩ := e
  obtain ⟨b, off, rfl, hC, hc⟩ := h3 (by omega)
  obtain ⟨u, hu, hr⟩ := hc i hi
  obtain ⟨a2, c2, rfl, _⟩ := id hr
  exact ⟨b, off, a2, c2, rfl, hC, hu, hr⟩
/-- the net of the first k tokens -/
def fuseK (T : List (List Stp)) (k : Nat) : NetM := (List.range k).foldl (fun N (i : Nat) => addM N i (T.getD i [])) ⟨[], [], [], [], []⟩
theorem fuseK_more (T : List (List Stp)) (k : Nat) : fuseK T (k + 1) = addM (fuseK T k) k (T.getD k []) := by
  simp [fuseK, List.range_succ]
theorem fuseK_all (T : List (List Stp)) : fuseK T T.length = fuseM T := rfl
/-- few tokens, of few steps -/
structure FewT (T : List (List Stp)) : Prop where
  len : T.length ≤ 12
  each : ∀ i, (T.getD i []).length ≤ 90
  wide : ∀ i, ∀ s ∈ T.getD i [], s.wide
theorem fuseK_len {T : List (List Stp)} (h : FewT T) : ∀ k, k ≤ 12 → (fuseK T k).sets.length ≤ k * 256 ∧ (fuseK T k).of.length ≤ k * 256 ∧ (fuseK T k).last.length ≤ k * 256 ∧ (fuseK T k).fol.length ≤ k * 256 ∧ (fuseK T k).first.length ≤ k * 256
  | 0, _ => by simp [fuseK]
  | k + 1, hk => by
    obtain ⟨h1, h2, h3, h4, h5⟩ := fuseK_len h k (by omega)
    rw [fuseK_more]
    have h6 := setsL_len (T.getD k [])
    have h7 := h.each k
    have h8 := sp_le (prtL (T.getD k [])).first
    simp only [addM, List.length_append, List.length_replicate, List.length_map, List.length_range, mvd_len]
    refine ⟨?_, ?_, ?_, ?_, ?_⟩ <;> omega
/-- a net by value -/
def netV (vs vo vl vf v1 : Value) : Value := .agg #[vs, vo, vl, vf, v1]
/-- what a maker of nets hands back -/
def RetN (w : World) (N : NetM) (e : Ending) (w' : World) : Prop := ∃ vs vo vl vf v1, e = .returned (netV vs vo vl vf v1) ∧ RdNet w'.heap.size w' vs vo vl vf v1 N ∧ Below w.heap.size w w'
theorem five_one {vs vo vl vf v1 : Value} {us : List Value} {w : World} {NB base : Nat} {N : NetM} (h : NetW w NB base vs vo vl vf v1 us N) : (#[vs, vo, vl, vf, v1] : Array Value).all (·.oneCell') = true := by
  obtain ⟨_, _, rfl⟩ := rowS_slice2 h.rowS
  obtain ⟨_, _, rfl⟩ := row_slice h.rowO
  obtain ⟨_, _, rfl⟩ := row_slice h.rowL
  obtain ⟨_, _, rfl⟩ := row_slice h.rowF
  obtain ⟨_, _, rfl⟩ := row_slice h.row1
  simp [Value.oneCell']
theorem ret_net {fn : Func} {R : Ending → World → Prop} {a : Act} {w : World} {B p : Nat} {vs vo vl vf v1 : Value} (h : fn.results = #[.cell p 53]) (hp : a.tmps.getD p undef = .pointer (some ⟨B, 0, none⟩))
    (hd : a.defers = []) (hS : w.heap[B]? = some (.cells #[vs, vo, vl, vf, v1] 53 (0, 0))) (hR : R (.returned (netV vs vo vl vf v1)) w) : bodyPost Try.prog fn R .ret a w :=
  bodyPost_ret (results_cell_row h _ w B 53 _ (0, 0) _ hp hS Try.underlying53 rfl (by kernel_rfl)) hd hR
/-- a block below, of slices alone, may be written -/
theorem NetW.over {vs vo vl vf v1 : Value} {us : List Value} {w w' : World} {NB base B : Nat} {N : NetM} (h : NetW w NB base vs vo vl vf v1 us N) (hg : w.grownBy w' (some B)) (hB : B < base) (hNB : base ≤ NB) (hc : ∀ j u, w.cell? ⟨B, j, none⟩ = some u → ∃ a n c, u = .slice a n c) : NetW w' NB base vs vo vl vf v1 us N := by
  refine ⟨⟨(hg.block NB h.own.lt (fun e => by simp only [Option.some.injEq] at e; omega)).trans h.own.obj, fun r hr => World.ownsRow.kept (h.own.rows r hr) hg (.inr fun e => ?_), h.own.apart, h.own.out⟩, h.len, fun i hi => ?_⟩
  · have := ((h.own.rows r hr).lt B e).1
    omega
  · obtain ⟨a, cap, e, h1, h2, h3, h4⟩ := h.el i hi
    refine ⟨a, cap, e, h1, h2, h3, fun hp => ?_⟩
    obtain ⟨b, off, e2, hP, hcell⟩ := h4 hp
    have hbB : b ≠ B := by
      rintro rfl
      obtain ⟨_, _, _, e3⟩ := hc _ _ (hcell 0 hp)
      cases e3
    have hh := hg.block b hP.1 (fun e => hbB (by simpa using e))
    exact ⟨b, off, e2, ⟨Nat.lt_of_lt_of_le hP.1 hg.size, hP.2⟩, fun i hi => (World.cell?_of_block (a := ⟨b, off + i, none⟩) hh).trans (hcell i hi)⟩
theorem nil_cells {w : World} {B : Nat} {t : TypeId} (h : w.heap[B]? = some (.cells #[.slice none 0 0, .slice none 0 0, .slice none 0 0, .slice none 0 0, .slice none 0 0] t (0, 0))) : ∀ j u, w.cell? ⟨B, j, none⟩ = some u → ∃ a n c, u = .slice a n c := by
  intro j u hu
  rw [cell_of_row w B j _ _ _ h] at hu
  have hm := Array.mem_of_getElem? hu
  simp at hm
  exact ⟨_, _, _, hm⟩
end Go.Proofs.Ytgaadndhecokfaa

/- Rows of a call's own that lie apart, beside blocks that are no rows: one row grows, is let go, or is begun anew; what is far from all of them stays as it is. -/
namespace Go.Proofs.Ytgaadndhecokfaa
open Go.RowKit Go.Lib Go.Joins

/-- rows that lie apart, outside the blocks X -/
structure OwnR (w : World) (X : Nat → Prop) (base : Nat) (rs : List R5) : Prop where
  rows : ∀ r ∈ rs, r.at w base
  apart : rs.Pairwise fun r s => away r.v s.v
  out : ∀ r ∈ rs, ∀ k, r.v.ownBlock = some k → ¬ X k
  fixed : ∀ k, X k → k < w.heap.size
/-- a block that is none of them -/
def FarR (w : World) (X : Nat → Prop) (rs : List R5) (k : Nat) : Prop := k < w.heap.size ∧ ¬ X k ∧ ∀ r ∈ rs, r.v.ownBlock ≠ some k
/-- what is far stays far, and as it is -/
def StayR (X : Nat → Prop) (w : World) (rs : List R5) (w' : World) (rs' : List R5) : Prop := ∀ k, FarR w X rs k → FarR w' X rs' k ∧ w'.heap[k]? = w.heap[k]?
theorem StayR.refl (X : Nat → Prop) (w : World) (rs : List R5) : StayR X w rs w rs := fun _ h => ⟨h, rfl⟩
theorem StayR.trans {X : Nat → Prop} {a b c : World} {ra rb rc : List R5} (h : StayR X a ra b rb) (k : StayR X b rb c rc) : StayR X a ra c rc := fun i hi => ⟨(k i (h i hi).1).1, (k i (h i hi).1).2.trans (h i hi).2⟩
section
variable {w w' : World} {X : Nat → Prop} {base : Nat} {rs : List R5}
theorem OwnR.kept (h : OwnR w X base rs) (hb : Below w.heap.size w w') : OwnR w' X base rs :=
  ⟨fun r hr => World.ownsRow.kept (row := none) (h.rows r hr) ⟨hb.os, hb.tape, hb.output, hb.size, fun k hk _ => hb.block k hk⟩ (by cases r.v.ownBlock <;> simp), h.apart, h.out, fun k hk => Nat.lt_of_lt_of_le (h.fixed k hk) hb.size⟩
theorem StayR.below (hb : Below w.heap.size w w') : StayR X w rs w' rs := fun k hk => ⟨⟨Nat.lt_of_lt_of_le hk.1 hb.size, hk.2⟩, hb.block k hk.1⟩
/-- a row's block -/
theorem OwnR.lt (h : OwnR w X base rs) {r : R5} (hr : r ∈ rs) {k : Nat} (hk : r.v.ownBlock = some k) : base ≤ k ∧ k < w.heap.size := World.ownsRow.lt (h.rows r hr) k hk
/-- row i becomes a row that lies where it lay, or in a new block -/
theorem OwnR.grow (h : OwnR w X base rs) (i : Nat) (hi : i < rs.length) (r' : R5) (hg : w.grownBy w' rs[i].v.ownBlock) (ho : r'.at w' base) (hat : ∀ k, r'.v.ownBlock = some k → rs[i].v.ownBlock = some k ∨ w.heap.size ≤ k) : OwnR w' X base (rs.set i r') := by
  have haw : ∀ j (hj : j < rs.length), j ≠ i → away r'.v rs[j].v := by
    intro j hj hne
    cases hv : r'.v.ownBlock with
    | none => exact .inl hv
    | some k =>
      refine .inr fun e => ?_
      rw [hv] at e
      rcases hat k hv with e2 | e2
      · rcases away_at h.apart i hi j hj (Ne.symm hne) with e3 | e3
        · rw [e2] at e3; cases e3
        · exact e3 (e2.trans e)
      · have := (h.lt (List.getElem_mem hj) e.symm).2
        omega
  refine ⟨?_, ?_, ?_, fun k hk => Nat.lt_of_lt_of_le (h.fixed k hk) hg.size⟩
  · intro r hr
    obtain ⟨j, hj, rfl⟩ := List.getElem_of_mem hr
    rw [List.length_set] at hj
    rw [List.getElem_set]
    by_cases e : i = j
    · rw [if_pos e]; exact ho
    · rw [if_neg e]
      exact World.ownsRow.kept (h.rows _ (List.getElem_mem hj)) hg (away_at h.apart j hj i hi (Ne.symm e))
  · rw [List.pairwise_iff_getElem]
    intro a b ha hb hab
    rw [List.length_set] at ha hb
    rw [List.getElem_set, List.getElem_set]
    by_cases e1 : i = a
    · subst e1
      rw [if_pos rfl, if_neg (by omega)]
      exact haw b hb (by omega)
    · rw [if_neg e1]
      by_cases e2 : i = b
      · subst e2
        rw [if_pos rfl]
        exact (haw a ha (by omega)).symm
      · rw [if_neg e2]
        exact away_at h.apart a ha b hb (by omega)
  · intro r hr k hk hX
    rcases List.mem_or_eq_of_mem_set hr with hr | rfl
    · exact h.out r hr k hk hX
    · rcases hat k hk with e | e
      · exact h.out _ (List.getElem_mem hi) k e hX
      · have := h.fixed k hX; omega
theorem StayR.grow (i : Nat) (hi : i < rs.length) (r' : R5) (hg : w.grownBy w' rs[i].v.ownBlock) (hat : ∀ k, r'.v.ownBlock = some k → rs[i].v.ownBlock = some k ∨ w.heap.size ≤ k) : StayR X w rs w' (rs.set i r') := by
  rintro k ⟨h1, h2, h3⟩
  refine ⟨⟨Nat.lt_of_lt_of_le h1 hg.size, h2, fun r hr e => ?_⟩, hg.block k h1 fun e => h3 _ (List.getElem_mem hi) e.symm⟩
  rcases List.mem_or_eq_of_mem_set hr with hr | rfl
  · exact h3 r hr e
  · rcases hat k e with e2 | e2
    · exact h3 _ (List.getElem_mem hi) e2
    · omega
/-- a store to a block of X -/
theorem OwnR.store (h : OwnR w X base rs) {B : Nat} (hX : X B) (j : Nat) (u : Value) : OwnR (w.setCell ⟨B, j, none⟩ u) X base rs := by
  have hgs : w.grownBy (w.setCell ⟨B, j, none⟩ u) (some B) := ⟨rfl, rfl, rfl, by simp, fun k _ hk => heap_setCell_other _ _ _ _ (fun e => hk (by rw [e]))⟩
  exact ⟨fun r hr => World.ownsRow.kept (h.rows r hr) hgs (.inr fun e => h.out r hr B e hX), h.apart, h.out, fun k hk => by simpa using h.fixed k hk⟩
theorem StayR.store {B : Nat} (hX : X B) (j : Nat) (u : Value) : StayR X w rs (w.setCell ⟨B, j, none⟩ u) rs := by
  rintro k ⟨h1, h2, h3⟩
  exact ⟨⟨by simpa using h1, h2, h3⟩, heap_setCell_other _ _ _ _ (fun e => h2 (e ▸ hX))⟩
/-- row i is let go: its block is far -/
theorem OwnR.drop (h : OwnR w X base rs) (i : Nat) (hi : i < rs.length) (t : TypeId) (sz : Nat) : OwnR w X base (rs.set i ⟨t, sz, .slice none 0 0, 0, []⟩) :=
  h.grow i hi _ ⟨rfl, rfl, rfl, Nat.le_refl _, fun _ _ _ => rfl⟩ (World.ownsRow_nil w base t sz) (by intro k hk; cases hk)
theorem StayR.drop (i : Nat) (hi : i < rs.length) (t : TypeId) (sz : Nat) : StayR X w rs w (rs.set i ⟨t, sz, .slice none 0 0, 0, []⟩) :=
  StayR.grow i hi _ ⟨rfl, rfl, rfl, Nat.le_refl _, fun _ _ _ => rfl⟩ (by intro k hk; cases hk)
theorem OwnR.far_drop (h : OwnR w X base rs) (i : Nat) (hi : i < rs.length) (t : TypeId) (sz : Nat) {k : Nat} (hk : rs[i].v.ownBlock = some k) : FarR w X (rs.set i ⟨t, sz, .slice none 0 0, 0, []⟩) k := by
  refine ⟨(h.lt (List.getElem_mem hi) hk).2, h.out _ (List.getElem_mem hi) k hk, fun r hr e => ?_⟩
  obtain ⟨j, hj, rfl⟩ := List.getElem_of_mem hr
  rw [List.length_set] at hj
  rw [List.getElem_set] at e
  by_cases e1 : i = j
  · rw [if_pos e1] at e; cases e
  · rw [if_neg e1] at e
    rcases away_at h.apart i hi j hj e1 with e3 | e3
    · rw [hk] at e3; cases e3
    · exact e3 (hk.trans e.symm)
/-- a row that lies in new blocks: its elements are far -/
theorem OwnR.far_new (h : OwnR w X base rs) {B k : Nat} (hB : w.heap.size ≤ B) (hk : B ≤ k ∧ k < w'.heap.size) : FarR w' X rs k :=
  ⟨hk.2, fun hX => by have := h.fixed k hX; omega, fun r hr e => by have := (h.lt hr e).2; omega⟩
end
/-- values that read as lists, in blocks of a kind -/
def Els (P : Nat → Prop) (w : World) (us : List Value) (L : List (List Int)) : Prop := us.length = L.length ∧ ∀ i, i < L.length → ElR P w (us.getD i undef) (L.getD i [])
theorem Els.mono {P P' : Nat → Prop} {w w' : World} {us : List Value} {L : List (List Int)} (h : Els P w us L) (hk : ∀ k, P k → P' k ∧ w'.heap[k]? = w.heap[k]?) : Els P' w' us L := ⟨h.1, fun i hi => (h.2 i hi).mono hk⟩
theorem Els.nil (P : Nat → Prop) (w : World) : Els P w [] [] := ⟨rfl, fun _ h => absurd h (Nat.not_lt_zero _)⟩
theorem Els.snoc {P : Nat → Prop} {w : World} {us : List Value} {L : List (List Int)} (h : Els P w us L) {u : Value} {l : List Int} (hu : ElR P w u l) : Els P w (us ++ [u]) (L ++ [l]) := by
  refine ⟨by simp [h.1], fun i hi => ?_⟩
  have hl := h.1
  simp only [List.length_append, List.length_cons, List.length_nil] at hi
  by_cases hi2 : i < L.length
  · have e1 : (us ++ [u]).getD i undef = us.getD i undef := by rw [List.getD_eq_getElem?_getD, List.getD_eq_getElem?_getD, List.getElem?_append_left (by omega)]
    have e2 : (L ++ [l]).getD i [] = L.getD i [] := by rw [List.getD_eq_getElem?_getD, List.getD_eq_getElem?_getD, List.getElem?_append_left (by omega)]
    rw [e1, e2]
    exact h.2 i hi2
  · have hi3 : i = L.length := by omega
    have e1 : (us ++ [u]).getD i undef = u := by rw [List.getD_eq_getElem?_getD, hi3, ← hl, List.getElem?_append_right (Nat.le_refl _)]; simp
    have e2 : (L ++ [l]).getD i [] = l := by rw [List.getD_eq_getElem?_getD, hi3, List.getElem?_append_right (Nat.le_refl _)]; simp
    rw [e1, e2]
    exact hu
/-- a row of lists, read -/
theorem Els.reads {P : Nat → Prop} {w : World} {us : List Value} {L : List (List Int)} {v : Value} {base : Nat} (h : Els P w us L) (hr : w.ownsRow base 24 1 v L.length us) (hP : ∀ k, P k → k < w.heap.size) : RdZZ w.heap.size w v L := by
  rcases hr.2 with ⟨rfl, h0⟩ | ⟨g, cap, cur, rfl, hb, hg, h1, h2, h3, h4⟩
  · exact ⟨none, 0, by rw [h0], by omega, by decide, fun _ => rfl, fun hp => by omega⟩
  · refine ⟨some ⟨g, 0, none⟩, cap, rfl, h1, h2, (fun e => by cases e), fun _ => ⟨g, 0, rfl, (Array.getElem?_eq_some_iff.1 hg).1, fun i hi => ?_⟩⟩
    have hi' : i < us.length := by rw [h.1]; exact hi
    refine ⟨us.getD i undef, ?_, ?_⟩
    · rw [Nat.zero_add, World.ownsRow.cellAt hr i (by omega), List.getD_eq_getElem?_getD, List.getElem?_eq_getElem hi']
      rfl
    · obtain ⟨a, c, e, k1, k2, k3, k4⟩ := h.2 i hi
      exact ⟨a, c, e, k1, k2, k3, fun hp => by
        obtain ⟨b, off, e, hPb, hc⟩ := k4 hp
        exact ⟨b, off, e, hP b hPb, hc⟩⟩
end Go.Proofs.Ytgaadndhecokfaa

/- A machine that a call builds: the empty one, its classes and its fields stored, and a result that lies in memory. -/
namespace Go.Proofs.Ytgaadndhecokfaa
open Go.RowKit Go.Lib Go.Joins

def zG (_ : Nat) : Nat := 0
theorem run_zero_dfa (w : World) : (zeroValue 26).run Try.prog w = .ok (dfaA zG 0 (.slice none 0 0) (.slice none 0 0)) w := by
  unfold dfaA dfaC
  rw [show nV zG = (fun _ => Value.int .u8 0) from rfl, ← cellsN_zero]
  kernel_rfl
theorem run_build_dfa (w : World) : (Instr.build 26 #[]).run Try.prog w = .ok (dfaA zG 0 (.slice none 0 0) (.slice none 0 0)) w := by
  unfold dfaA dfaC
  rw [show nV zG = (fun _ => Value.int .u8 0) from rfl, ← cellsN_zero]
  kernel_rfl
theorem dfaC_one (g : Nat → Nat) (wd : Int) {vn vl : Value} (h1 : vn.oneCell' = true) (h2 : vl.oneCell' = true) : (dfaC g wd vn vl).all (·.oneCell') = true := by
  unfold dfaC
  rw [Array.all_append, cellsN_one _ fun _ => rfl]
  simp [h1, h2, show (Value.int IntKind.i64 wd).oneCell' = true from rfl]
section
variable {w w' : World} {B : Nat} {g h : Nat → Nat} {wd wd' : Int} {vn vl vn' vl' : Value}
/-- the whole machine is stored -/
theorem store_dfa {ops : Array Oper} {rest : List Oper} {o : Oper} {a : Act} {Q : Exit → Act → World → Prop} (hgd : o.guard = none) {x y : Operand} (ho : o.op = .store 26 x y)
    (hx : a.eval x = .pointer (some ⟨B, 0, none⟩)) (hy : a.eval y = dfaA h wd' vn' vl') (hA : DfaAt w B g wd vn vl) (h1 : vn'.oneCell' = true) (h2 : vl'.oneCell' = true)
    (hk : ∀ w', DfaAt w' B h wd' vn' vl' → w.grownBy w' (some B) → w'.heap.size = w.heap.size → wpList Try.prog ops Q rest (a.put o.dst undef) w') : wpList Try.prog ops Q (o :: rest) a w :=
  wpList_store_row hgd 26 x y ho B _ hx hy 26 _ hA (by rw [dfaC_size]; exact size_dfa) (by rw [dfaC_size, dfaC_size]) (dfaC_one h wd' h1 h2)
    (hk _ (setRow_heap w B _ _ _ _ hA) ⟨rfl, rfl, rfl, by simp, fun k _ hne => setRow_other w B k _ (by simpa using hne)⟩ (by simp))
/-- its classes are stored -/
theorem store_cls {ops : Array Oper} {rest : List Oper} {o : Oper} {a : Act} {Q : Exit → Act → World → Prop} (hgd : o.guard = none) {x y : Operand} (ho : o.op = .store 22 x y)
    (hx : a.eval x = .pointer (some ⟨B, 0, none⟩)) (hy : a.eval y = ar h) (hA : DfaAt w B g wd vn vl)
    (hk : ∀ w', DfaAt w' B h wd vn vl → w.grownBy w' (some B) → w'.heap.size = w.heap.size → wpList Try.prog ops Q rest (a.put o.dst undef) w') : wpList Try.prog ops Q (o :: rest) a w := by
  refine wpList_plain hgd fun K hK => ?_
  have hr := run_storeCells_at (P := Try.prog) B 0 26 (cellsN (nV h)).toList 0 (dfaC g wd vn vl) w hA (by rw [Array.length_toList, cellsN_size, dfaC_size]; omega) (fun v hv => (Array.all_eq_true_iff_forall_mem.1 (cellsN_one (nV h) fun _ => rfl)) v (by simpa using hv))
  have e : ((dfaC g wd vn vl).toList.take (0 + 0) ++ (cellsN (nV h)).toList ++ (dfaC g wd vn vl).toList.drop (0 + 0 + (cellsN (nV h)).toList.length)).toArray = dfaC h wd vn vl := by
    rw [Array.length_toList, cellsN_size]
    unfold dfaC
    rw [Array.toList_append, List.drop_append_of_le_length (by rw [Array.length_toList, cellsN_size]; omega)]
    rw [List.drop_eq_nil_of_le (by rw [Array.length_toList, cellsN_size]; omega)]
    simp
  rw [e] at hr
  have hK' := hK _ _ (hk (w.setRow B (dfaC h wd vn vl)) (setRow_heap w B _ _ _ _ hA) ⟨rfl, rfl, rfl, by simp, fun k _ hne => setRow_other w B k _ (by simpa using hne)⟩ (by simp))
  cases hq : Try.prog.info? 22 with
  | none => have := size_arr; simp [hq] at this
  | some i =>
    have hs : i.size = 256 := by have := size_arr; simpa [hq] using this
    have hst : (storeVar 22 ⟨B, 0, none⟩ (ar h)).run Try.prog w = .ok () (w.setRow B (dfaC h wd vn vl)) := by
      simp [storeVar, sizeOf, typeInfo, hq, Value.cells, hs, cellsN_size, hr]
    unfold Oper.wp execOp
    simp only [ho, hx, hy, Instr.storeAt, Instr.sureAddr, Sem.run_bind, Sem.run_pure, Result.andThen_ok, hst]
    exact hK'
theorem dfaC_set256 (g : Nat → Nat) (wd wd' : Int) (vn vl : Value) : (dfaC g wd vn vl).setIfInBounds 256 (.int .i64 wd') = dfaC g wd' vn vl := by
  unfold dfaC
  rw [Array.setIfInBounds_append_right (by rw [cellsN_size]; omega), cellsN_size]
  rfl
theorem dfaC_set257 (g : Nat → Nat) (wd : Int) (vn vn' vl : Value) : (dfaC g wd vn vl).setIfInBounds 257 vn' = dfaC g wd vn' vl := by
  unfold dfaC
  rw [Array.setIfInBounds_append_right (by rw [cellsN_size]; omega), cellsN_size]
  rfl
theorem dfaC_set258 (g : Nat → Nat) (wd : Int) (vn vl vl' : Value) : (dfaC g wd vn vl).setIfInBounds 258 vl' = dfaC g wd vn vl' := by
  unfold dfaC
  rw [Array.setIfInBounds_append_right (by rw [cellsN_size]; omega), cellsN_size]
  rfl
theorem DfaAt.putWidth (hA : DfaAt w B g wd vn vl) (wd' : Int) : DfaAt (w.setCell ⟨B, 256, none⟩ (.int .i64 wd')) B g wd' vn vl := by
  unfold DfaAt
  rw [heap_setCell_same _ _ _ _ _ _ hA, dfaC_set256]
theorem DfaAt.putNext (hA : DfaAt w B g wd vn vl) (vn' : Value) : DfaAt (w.setCell ⟨B, 257, none⟩ vn') B g wd vn' vl := by
  unfold DfaAt
  rw [heap_setCell_same _ _ _ _ _ _ hA, dfaC_set257]
theorem DfaAt.putLabel (hA : DfaAt w B g wd vn vl) (vl' : Value) : DfaAt (w.setCell ⟨B, 258, none⟩ vl') B g wd vn vl' := by
  unfold DfaAt
  rw [heap_setCell_same _ _ _ _ _ _ hA, dfaC_set258]
theorem DfaAt.grown (hA : DfaAt w B g wd vn vl) {o : Option Nat} (hg : w.grownBy w' o) (ho : o ≠ some B) : DfaAt w' B g wd vn vl := (hg.block B hA.lt (Ne.symm ho)).trans hA
theorem DfaAt.put (hA : DfaAt w B g wd vn vl) {C j : Nat} (u : Value) (hne : B ≠ C) : DfaAt (w.setCell ⟨C, j, none⟩ u) B g wd vn vl := (heap_setCell_other _ _ _ _ hne).trans hA
theorem results_cell_tmp2 {fn : Func} {p u z : Tmp} {ty : TypeId} (h : fn.results = #[.cell p ty, .tmp u, .tmp z]) (tmps : Array Value) (P : Program) (w : World) :
    (results fn tmps).run P w = ((asAddr (tmps.getD p undef)).run P w).andThen fun a w₁ => ((loadVar ty a).run P w₁).andThen fun v w₂ => .ok (.tuple #[v, tmps.getD u undef, tmps.getD z undef]) w₂ := by
  simp only [results, h]
  simp [Sem.run_bind, Result.andThen]
/-- results: a machine in memory, and two values -/
theorem ret_dfa3 {fn : Func} {R : Ending → World → Prop} {a : Act} {p u z : Nat} {x y : Value} (hf : fn.results = #[.cell p 26, .tmp u, .tmp z]) (hp : a.tmps.getD p undef = .pointer (some ⟨B, 0, none⟩))
    (hu : a.tmps.getD u undef = x) (hz : a.tmps.getD z undef = y) (hd : a.defers = []) (hA : DfaAt w B g wd vn vl) (hR : R (.returned (.tuple #[dfaA g wd vn vl, x, y])) w) : bodyPost Try.prog fn R .ret a w := by
  have hl := run_load_dfa hA
  refine bodyPost_ret (v := .tuple #[dfaA g wd vn vl, x, y]) ?_ hd hR
  rw [results_cell_tmp2 hf, hp, hu, hz]
  simp [asAddr, hl, Result.andThen]
end
end Go.Proofs.Ytgaadndhecokfaa
