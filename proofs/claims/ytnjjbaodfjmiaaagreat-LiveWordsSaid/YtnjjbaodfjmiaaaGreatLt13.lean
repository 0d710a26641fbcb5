/- FuNet, FuObj, FuNetW, FuMoved, put together. -/
import Derived.Test.YtnjjbaodfjmiaaaGreatLt07
import Derived.Test.YtnjjbaodfjmiaaaGreatLt08
import Derived.Test.YtnjjbaodfjmiaaaGreatLt12
import Derived.Test.YtnjjbaodfjmiaaaGreatLt04
import Derived.Maps.AppendAt
/- Nets as they are read: sets, numbers, flags, lists of numbers. -/
namespace Go.Proofs.YtnjjbaodfjmiaaaGreat
open Go.RowKit Go.Lib Go.Joins
/-- a slice of sets that reads as these words -/
def RdS (B : Nat) (w : World) (v : Value) (S : List Stp) : Prop := ∃ a cap, v = .slice a S.length cap ∧ S.length ≤ cap ∧ cap ≤ maxLen ∧ (a = none → cap = 0) ∧ (0 < S.length → ∃ b off, a = some ⟨b, off, none⟩ ∧ b < B ∧ ∀ i, i < S.length → w.cell? ⟨b, off + i * 4, none⟩ = some (.int .u64 (S.getD i default).a) ∧ w.cell? ⟨b, off + i * 4 + 1, none⟩ = some (.int .u64 (S.getD i default).b) ∧ w.cell? ⟨b, off + i * 4 + 2, none⟩ = some (.int .u64 (S.getD i default).c) ∧ w.cell? ⟨b, off + i * 4 + 3, none⟩ = some (.int .u64 (S.getD i default).d))
/-- a slice of flags -/
def RdB (B : Nat) (w : World) (v : Value) (l : List Bool) : Prop := ∃ a cap, v = .slice a l.length cap ∧ l.length ≤ cap ∧ cap ≤ maxLen ∧ (a = none → cap = 0) ∧ (0 < l.length → ∃ b off, a = some ⟨b, off, none⟩ ∧ b < B ∧ ∀ i, i < l.length → w.cell? ⟨b, off + i, none⟩ = some (.bool (l.getD i false)))
/-- a slice of lists of numbers -/
def RdZZ (B : Nat) (w : World) (v : Value) (l : List (List Int)) : Prop := ∃ a cap, v = .slice a l.length cap ∧ l.length ≤ cap ∧ cap ≤ maxLen ∧ (a = none → cap = 0) ∧ (0 < l.length → ∃ b off, a = some ⟨b, off, none⟩ ∧ b < B ∧ ∀ i, i < l.length → ∃ u, w.cell? ⟨b, off + i, none⟩ = some u ∧ RdZ B w u (l.getD i []))
section
variable {B B' : Nat} {w w' : World} {v : Value}
theorem RdS.below {S : List Stp} (h : RdS B w v S) (hb : Below B w w') (hB : B ≤ B') : RdS B' w' v S := by
  obtain ⟨a, cap, rfl, h1, h2, h3, h4⟩ := h
  refine ⟨a, cap, rfl, h1, h2, h3, fun hp => ?_⟩
  obtain ⟨b, off, e, hlt, hc⟩ := h4 hp
  refine ⟨b, off, e, by omega, fun i hi => ?_⟩
  obtain ⟨x0, x1, x2, x3⟩ := hc i hi
  exact ⟨(hb.cell (p := ⟨b, off + i * 4, none⟩) hlt).trans x0, (hb.cell (p := ⟨b, off + i * 4 + 1, none⟩) hlt).trans x1, (hb.cell (p := ⟨b, off + i * 4 + 2, none⟩) hlt).trans x2, (hb.cell (p := ⟨b, off + i * 4 + 3, none⟩) hlt).trans x3⟩
theorem RdB.below {l : List Bool} (h : RdB B w v l) (hb : Below B w w') (hB : B ≤ B') : RdB B' w' v l := by
  obtain ⟨a, cap, rfl, h1, h2, h3, h4⟩ := h
  refine ⟨a, cap, rfl, h1, h2, h3, fun hp => ?_⟩
  obtain ⟨b, off, e, hlt, hc⟩ := h4 hp
  exact ⟨b, off, e, by omega, fun i hi => (hb.cell (p := ⟨b, off + i, none⟩) hlt).trans (hc i hi)⟩
theorem RdZZ.below {l : List (List Int)} (h : RdZZ B w v l) (hb : Below B w w') (hB : B ≤ B') : RdZZ B' w' v l := by
  obtain ⟨a, cap, rfl, h1, h2, h3, h4⟩ := h
  refine ⟨a, cap, rfl, h1, h2, h3, fun hp => ?_⟩
  obtain ⟨b, off, e, hlt, hc⟩ := h4 hp
  refine ⟨b, off, e, by omega, fun i hi => ?_⟩
  obtain ⟨u, hu, hr⟩ := hc i hi
  exact ⟨u, (hb.cell (p := ⟨b, off + i, none⟩) hlt).trans hu, hr.below hb hB⟩
theorem RdS.form {S : List Stp} (h : RdS B w v S) : ∃ a cap, v = .slice a S.length cap := by
  obtain ⟨a, cap, rfl, _⟩ := h
  exact ⟨a, cap, rfl⟩
theorem RdB.form {l : List Bool} (h : RdB B w v l) : ∃ a cap, v = .slice a l.length cap := by
  obtain ⟨a, cap, rfl, _⟩ := h
  exact ⟨a, cap, rfl⟩
theorem RdZZ.form {l : List (List Int)} (h : RdZZ B w v l) : ∃ a cap, v = .slice a l.length cap := by
  obtain ⟨a, cap, rfl, _⟩ := h
  exact ⟨a, cap, rfl⟩
end
/-- the cells of one element, in a later world -/
theorem RdS.at {B : Nat} {w w' : World} {a : Option Addr} {n c : Nat} {S : List Stp} (h : RdS B w (.slice a n c) S) (hb : Below B w w') (i : Nat) (hi : i < S.length) : ∃ b off, a = some ⟨b, off, none⟩ ∧ b < B ∧ w'.cell? ⟨b, off + i * 4, none⟩ = some (.int .u64 (S.getD i default).a) ∧ w'.cell? ⟨b, off + i * 4 + 1, none⟩ = some (.int .u64 (S.getD i default).b) ∧ w'.cell? ⟨b, off + i * 4 + 2, none⟩ = some (.int .u64 (S.getD i default).c) ∧ w'.cell? ⟨b, off + i * 4 + 3, none⟩ = some (.int .u64 (S.getD i default).d) := by
  obtain ⟨a', cap, e, _, _, _, h4⟩ := h.below hb (Nat.le_refl _)
  simp only [Value.slice.injEq] at e
  obtain ⟨rfl, _, _⟩ := e
  obtain ⟨b, off, e, hlt, hc⟩ := h4 (by omega)
  exact ⟨b, off, e, hlt, hc i hi⟩
theorem RdB.at {B : Nat} {w w' : World} {a : Option Addr} {n c : Nat} {l : List Bool} (h : RdB B w (.slice a n c) l) (hb : Below B w w') (i : Nat) (hi : i < l.length) : ∃ b off, a = some ⟨b, off, none⟩ ∧ b < B ∧ w'.cell? ⟨b, off + i, none⟩ = some (.bool (l.getD i false)) := by
  obtain ⟨a', cap, e, _, _, _, h4⟩ := h.below hb (Nat.le_refl _)
  simp only [Value.slice.injEq] at e
  obtain ⟨rfl, _, _⟩ := e
  obtain ⟨b, off, e, hlt, hc⟩ := h4 (by omega)
  exact ⟨b, off, e, hlt, hc i hi⟩
theorem RdZ.atZ {B : Nat} {w w' : World} {a : Option Addr} {n c : Nat} {l : List Int} (h : RdZ B w (.slice a n c) l) (hb : Below B w w') (i : Nat) (hi : i < l.length) : ∃ b off, a = some ⟨b, off, none⟩ ∧ b < B ∧ w'.cell? ⟨b, off + i, none⟩ = some (.int .i64 (l.getD i 0)) := by
  obtain ⟨a', cap, e, _, _, _, h4⟩ := h.below hb (Nat.le_refl _)
  simp only [Value.slice.injEq] at e
  obtain ⟨rfl, _, _⟩ := e
  obtain ⟨b, off, e, hlt, hc⟩ := h4 (by omega)
  exact ⟨b, off, e, hlt, hc i hi⟩
theorem RdZZ.at {B : Nat} {w w' : World} {a : Option Addr} {n c : Nat} {l : List (List Int)} (h : RdZZ B w (.slice a n c) l) (hb : Below B w w') (i : Nat) (hi : i < l.length) : ∃ b off a' c', a = some ⟨b, off, none⟩ ∧ b < B ∧ w'.cell? ⟨b, off + i, none⟩ = some (.slice a' (l.getD i []).length c') ∧ RdZ B w' (.slice a' (l.getD i []).length c') (l.getD i []) := by
  obtain ⟨a', cap, e, _, _, _, h4⟩ := h.below hb (Nat.le_refl _)
  simp only [Value.slice.injEq] at e
  obtain ⟨rfl, _, _⟩ := e
  obtain ⟨b, off, e, hlt, hc⟩ := h4 (by omega)
  obtain ⟨u, hu, hr⟩ := hc i hi
  obtain ⟨a', c', rfl⟩ := hr.form
  exact ⟨b, off, a', c', e, hlt, hu, hr⟩
/-- a net -/
structure NetM where
  sets : List Stp
  of : List Int
  last : List Bool
  fol : List (List Int)
  first : List Int
/-- five slices that read as a net -/
structure RdNet (B : Nat) (w : World) (vs vo vl vf v1 : Value) (N : NetM) : Prop where
  sets : RdS B w vs N.sets
  of : RdZ B w vo N.of
  last : RdB B w vl N.last
  fol : RdZZ B w vf N.fol
  first : RdZ B w v1 N.first
theorem RdNet.below {B B' : Nat} {w w' : World} {vs vo vl vf v1 : Value} {N : NetM} (h : RdNet B w vs vo vl vf v1 N) (hb : Below B w w') (hB : B ≤ B') : RdNet B' w' vs vo vl vf v1 N := ⟨h.sets.below hb hB, h.of.below hb hB, h.last.below hb hB, h.fol.below hb hB, h.first.below hb hB⟩
theorem RdNet.later {w w' : World} {vs vo vl vf v1 : Value} {N : NetM} (h : RdNet w.heap.size w vs vo vl vf v1 N) (hb : Below w.heap.size w w') : RdNet w'.heap.size w' vs vo vl vf v1 N := h.below hb hb.size
/-- the five cells of a net in a box -/
theorem net_box (w : World) (vs vo vl vf v1 : Value) (t : TypeId) : ∀ w', Below (w.heap.size + 1) (w.alloc (.cells #[vs, vo, vl, vf, v1] t)) w' → w'.cell? ⟨w.heap.size, 0, none⟩ = some vs ∧ w'.cell? ⟨w.heap.size, 1, none⟩ = some vo ∧ w'.cell? ⟨w.heap.size, 2, none⟩ = some vl ∧ w'.cell? ⟨w.heap.size, 3, none⟩ = some vf ∧ w'.cell? ⟨w.heap.size, 4, none⟩ = some v1 := fun w' hb => by
  have hg := (hb.block w.heap.size (by omega)).trans (heap_alloc_new w (.cells #[vs, vo, vl, vf, v1] t))
  exact ⟨cell_of_row _ _ 0 _ _ _ hg, cell_of_row _ _ 1 _ _ _ hg, cell_of_row _ _ 2 _ _ _ hg, cell_of_row _ _ 3 _ _ _ hg, cell_of_row _ _ 4 _ _ _ hg⟩
/-- is l a list of spots below n? -/
def spotsB (l : List Int) (n : Nat) : Bool := upB l && l.all fun x => decide (0 ≤ x) && decide (x < n)
def rightB (N : NetM) : Bool := decide (N.of.length = N.sets.length ∧ N.last.length = N.sets.length ∧ N.fol.length = N.sets.length) && (spotsB N.first N.sets.length && (List.range N.sets.length).all fun i => decide (0 ≤ N.of.getD i 0) && spotsB (N.fol.getD i []) N.sets.length)
theorem up_ends : ∀ {l : List Int} (x : Int) (r : List Int), l = x :: r → Up l → ∀ y ∈ l, x ≤ y ∧ y ≤ l.getD (l.length - 1) 0
  | _, x, [], rfl, _, y, hy => by simp at hy; subst hy; simp
  | _, x, z :: r, rfl, h, y, hy => by
    have h' := List.pairwise_cons.1 h
    have ih := up_ends z r rfl h'.2
    have e : (x :: z :: r).getD ((x :: z :: r).length - 1) 0 = (z :: r).getD ((z :: r).length - 1) 0 := by simp
    rw [e]
    rcases List.mem_cons.1 hy with rfl | hy
    · have h1 := h'.1 z (by simp)
      have h2 := (ih z (by simp)).2
      exact ⟨by omega, by omega⟩
    · have h1 := h'.1 y hy
      have h2 := ih y hy
      exact ⟨by omega, h2.2⟩
/-- the ends alone need be looked at -/
theorem spotsB_ends (l : List Int) (n : Nat) : spotsB l n = (upB l && (decide (l.length = 0) || (decide (0 ≤ l.getD 0 0) && decide (l.getD (l.length - 1) 0 < n)))) := by
  unfold spotsB
  cases hu : upB l with
  | false => rfl
  | true =>
    rw [Bool.true_and, Bool.true_and]
    cases l with
    | nil => rfl
    | cons x r =>
      have hup : Up (x :: r) := of_decide_eq_true hu
      have he := up_ends x r rfl hup
      rw [Bool.eq_iff_iff]
      simp only [List.all_eq_true, Bool.and_eq_true, decide_eq_true_eq, Bool.or_eq_true]
      constructor
      · intro h
        refine .inr ⟨(h x (by simp)).1, ?_⟩
        exact (h _ (by
          rw [List.getD_eq_getElem?_getD, List.getElem?_eq_getElem (by simp)]
          exact List.getElem_mem _)).2
      · rintro (h | ⟨h1, h2⟩)
        · simp at h
        · intro y hy
          have := he y hy
          have e0 : (x :: r).getD 0 0 = x := rfl
          rw [e0] at h1
          exact ⟨by omega, by omega⟩
end Go.Proofs.YtnjjbaodfjmiaaaGreat

/- An object of slices that the call owns, each a row of its own: appended to one at a time. -/
namespace Go.Proofs.YtnjjbaodfjmiaaaGreat
open Go.RowKit Go.Lib Go.Joins
/-- a row: the element's type and size, the slice, its length and cells -/
structure R5 where
  t : TypeId
  sz : Nat
  v : Value
  n : Nat
  xs : List Value
def R5.at (w : World) (base : Nat) (r : R5) : Prop := w.ownsRow base r.t r.sz r.v r.n r.xs
def away (u v : Value) : Prop := u.ownBlock = none ∨ u.ownBlock ≠ v.ownBlock
theorem away.symm {u v : Value} (h : away u v) : away v u := by
  unfold away at *
  cases hv : v.ownBlock with
  | none => exact .inl rfl
  | some x =>
    right
    intro e
    rcases h with h | h
    · rw [h] at e; cases e
    · exact h (by rw [hv, e])
/-- block NB holds the slices of rows rs, which lie apart -/
structure ObjR (w : World) (NB base : Nat) (T : TypeId) (rs : List R5) : Prop where
  obj : w.heap[NB]? = some (.cells (rs.map (·.v)).toArray T (0, 0))
  rows : ∀ r ∈ rs, r.at w base
  apart : rs.Pairwise fun r s => away r.v s.v
  out : ∀ r ∈ rs, r.v.ownBlock ≠ some NB
/-- a block of the object -/
def InO (NB : Nat) (rs : List R5) (k : Nat) : Prop := k = NB ∨ ∃ r ∈ rs, r.v.ownBlock = some k
section
variable {w w' : World} {NB base : Nat} {T : TypeId} {rs : List R5}
theorem ObjR.lt (h : ObjR w NB base T rs) : NB < w.heap.size := (Array.getElem?_eq_some_iff.1 h.obj).1
theorem ObjR.kept (h : ObjR w NB base T rs) (hb : Below w.heap.size w w') : ObjR w' NB base T rs :=
  ⟨(hb.block NB h.lt).trans h.obj, fun r hr => World.ownsRow.kept (row := none) (h.rows r hr) ⟨hb.os, hb.tape, hb.output, hb.size, fun k hk _ => hb.block k hk⟩ (by cases r.v.ownBlock <;> simp), h.apart, h.out⟩
theorem ObjR.cell (h : ObjR w NB base T rs) (i : Nat) : w.cell? ⟨NB, i, none⟩ = (rs.map (·.v))[i]? := by
  rw [cell_of_row w NB i _ _ _ h.obj, List.getElem?_toArray]
theorem ObjR.ltO (h : ObjR w NB base T rs) {k : Nat} (hk : InO NB rs k) : k < w.heap.size := by
  rcases hk with rfl | ⟨r, hr, e⟩
  · exact h.lt
  · exact ((h.rows r hr).lt k e).2
theorem away_at : ∀ {rs : List R5}, rs.Pairwise (fun r s => away r.v s.v) → ∀ i (hi : i < rs.length) j (hj : j < rs.length), i ≠ j → away rs[i].v rs[j].v := fun {rs} h i hi j hj hne => by
  rcases Nat.lt_or_gt_of_ne hne with hlt | hlt
  · exact List.pairwise_iff_getElem.1 h i j hi hj hlt
  · exact (List.pairwise_iff_getElem.1 h j i hj hi hlt).symm
/-- behind an append to row i, whose new slice is stored -/
theorem ObjR.put (h : ObjR w NB base T rs) (i : Nat) (hi : i < rs.length) (r' : R5) (hg : w.grownBy w' rs[i].v.ownBlock) (ho : r'.at w' base) (hat : r'.v.ownBlock = rs[i].v.ownBlock ∨ r'.v.ownBlock = some w.heap.size) :
    ObjR (w'.setCell ⟨NB, i, none⟩ r'.v) NB base T (rs.set i r') := by
  have hNB : w'.heap[NB]? = some (.cells (rs.map (·.v)).toArray T (0, 0)) := (hg.block NB h.lt (fun e => h.out _ (List.getElem_mem hi) e.symm)).trans h.obj
  have hnew : ∀ k, r'.v.ownBlock = some k → k ≠ NB := by
    intro k hk e
    subst e
    rcases hat with e | e
    · exact h.out _ (List.getElem_mem hi) (e ▸ hk)
    · rw [e] at hk
      have := h.lt
      simp only [Option.some.injEq] at hk
      omega
  have hgs : w'.grownBy (w'.setCell ⟨NB, i, none⟩ r'.v) (some NB) := ⟨rfl, rfl, rfl, by simp, fun k _ hk => heap_setCell_other _ _ _ _ (fun e => hk (by rw [e]))⟩
  have haw : ∀ j (hj : j < rs.length), j ≠ i → away r'.v rs[j].v := by
    intro j hj hne
    rcases hat with e | e
    · have := away_at h.apart i hi j hj (Ne.symm hne)
      unfold away at *
      rw [e]
      exact this
    · right
      rw [e]
      intro e2
      have := ((h.rows _ (List.getElem_mem hj)).lt _ e2.symm).2
      omega
  refine ⟨?_, ?_, ?_, ?_⟩
  · rw [heap_setCell_same _ _ _ _ _ _ hNB, List.map_set]
    simp
  · intro r hr
    obtain ⟨j, hj, rfl⟩ := List.getElem_of_mem hr
    rw [List.length_set] at hj
    rw [List.getElem_set]
    by_cases e : i = j
    · rw [if_pos e]
      exact World.ownsRow.kept ho hgs (by
        cases hv : r'.v.ownBlock with
        | none => exact .inl rfl
        | some k => exact .inr (fun e => hnew k hv (by simpa using e)))
    · rw [if_neg e]
      have h1 : (rs[j]).at w' base := World.ownsRow.kept (h.rows _ (List.getElem_mem hj)) hg (away_at h.apart j hj i hi (Ne.symm e))
      exact World.ownsRow.kept h1 hgs (.inr (h.out _ (List.getElem_mem hj)))
  · rw [List.pairwise_iff_getElem]
    intro a b ha hb hab
    rw [List.length_set] at ha hb
    rw [List.getElem_set, List.getElem_set]
    by_cases e1 : i = a
    · subst e1
      rw [if_pos rfl, if_neg (by omega)]
      exact haw b hb (by omega)
    · rw [if_neg e1]
      by_cases e2 : i = b
      · subst e2
        rw [if_pos rfl]
        exact (haw a ha (by omega)).symm
      · rw [if_neg e2]
        exact away_at h.apart a ha b hb (by omega)
  · intro r hr
    obtain ⟨j, hj, rfl⟩ := List.getElem_of_mem hr
    rw [List.length_set] at hj
    rw [List.getElem_set]
    by_cases e : i = j
    · rw [if_pos e]
      exact fun e => hnew NB e rfl
    · rw [if_neg e]
      exact h.out _ (List.getElem_mem hj)
/-- a block that is none of the object's stays none, and as it was -/
theorem InO.other (i : Nat) (hi : i < rs.length) (r' : R5) (hg : w.grownBy w' rs[i].v.ownBlock) (hat : r'.v.ownBlock = rs[i].v.ownBlock ∨ r'.v.ownBlock = some w.heap.size) {k : Nat} (hk : k < w.heap.size) (hn : ¬ InO NB rs k) :
    (w'.setCell ⟨NB, i, none⟩ r'.v).heap[k]? = w.heap[k]? ∧ ¬ InO NB (rs.set i r') k := by
  have h1 : k ≠ NB := fun e => hn (.inl e)
  have h2 : ∀ r ∈ rs, r.v.ownBlock ≠ some k := fun r hr e => hn (.inr ⟨r, hr, e⟩)
  refine ⟨(heap_setCell_other _ _ _ _ h1).trans (hg.block k hk (fun e => h2 _ (List.getElem_mem hi) e.symm)), ?_⟩
  rintro (e | ⟨r, hr, e⟩)
  · exact h1 e
  · rcases List.mem_or_eq_of_mem_set hr with hr | rfl
    · exact h2 r hr e
    · rcases hat with e2 | e2
      · exact h2 _ (List.getElem_mem hi) (e2.symm.trans e)
      · rw [e2] at e
        simp only [Option.some.injEq] at e
        omega
end
end Go.Proofs.YtnjjbaodfjmiaaaGreat

/- A net that a call builds behind a pointer: its five rows, and what the lists of follow read as. -/
namespace Go.Proofs.YtnjjbaodfjmiaaaGreat
open Go.RowKit Go.Lib Go.Joins
/-- a slice of numbers in a block of this kind -/
def ElR (P : Nat → Prop) (w : World) (v : Value) (l : List Int) : Prop := ∃ a cap, v = .slice a l.length cap ∧ l.length ≤ cap ∧ cap ≤ maxLen ∧ (a = none → cap = 0) ∧ (0 < l.length → ∃ b off, a = some ⟨b, off, none⟩ ∧ P b ∧ ∀ i, i < l.length → w.cell? ⟨b, off + i, none⟩ = some (.int .i64 (l.getD i 0)))
theorem ElR.mono {P P' : Nat → Prop} {w w' : World} {v : Value} {l : List Int} (h : ElR P w v l) (hk : ∀ k, P k → P' k ∧ w'.heap[k]? = w.heap[k]?) : ElR P' w' v l := by
  obtain ⟨a, cap, rfl, h1, h2, h3, h4⟩ := h
  refine ⟨a, cap, rfl, h1, h2, h3, fun hp => ?_⟩
  obtain ⟨b, off, e, hP, hc⟩ := h4 hp
  exact ⟨b, off, e, (hk b hP).1, fun i hi => (World.cell?_of_block (a := ⟨b, off + i, none⟩) (hk b hP).2).trans (hc i hi)⟩
theorem RowZ.el {w : World} {base : Nat} {v : Value} {l : List Int} (h : RowZ w base v l) : ElR (fun k => base ≤ k ∧ k < w.heap.size) w v l := by
  have h' := h
  rcases h.2 with ⟨rfl, h0⟩ | ⟨g, cap, cur, rfl, hb, hg, h1, h2, h3, h4⟩
  · exact ⟨none, 0, by rw [h0], by omega, by decide, fun _ => rfl, fun hp => by omega⟩
  · refine ⟨some ⟨g, 0, none⟩, cap, rfl, h1, h2, (fun e => by cases e), fun _ => ⟨g, 0, rfl, ⟨hb, (Array.getElem?_eq_some_iff.1 hg).1⟩, fun i hi => ?_⟩⟩
    rw [Nat.zero_add, World.ownsRow.cellAt h' i (by omega), List.getElem?_map, List.getD_eq_getElem?_getD, List.getElem?_eq_getElem hi]
    rfl
def rows5 (vs vo vl vf v1 : Value) (us : List Value) (N : NetM) : List R5 :=
  [⟨103, 4, vs, N.sets.length, N.sets.flatMap setC⟩, ⟨3, 1, vo, N.of.length, N.of.map (Value.int .i64)⟩, ⟨4, 1, vl, N.last.length, N.last.map Value.bool⟩, ⟨24, 1, vf, N.fol.length, us⟩, ⟨3, 1, v1, N.first.length, N.first.map (Value.int .i64)⟩]
/-- a block that is none of the net's own -/
def Far (w : World) (NB : Nat) (rs : List R5) (k : Nat) : Prop := k < w.heap.size ∧ ¬ InO NB rs k
structure NetW (w : World) (NB base : Nat) (vs vo vl vf v1 : Value) (us : List Value) (N : NetM) : Prop where
  own : ObjR w NB base 72 (rows5 vs vo vl vf v1 us N)
  len : us.length = N.fol.length
  el : ∀ i, i < N.fol.length → ElR (Far w NB (rows5 vs vo vl vf v1 us N)) w (us.getD i undef) (N.fol.getD i [])
section
variable {w w' : World} {NB base : Nat} {vs vo vl vf v1 : Value} {us : List Value} {N : NetM}
theorem NetW.obj (h : NetW w NB base vs vo vl vf v1 us N) : w.heap[NB]? = some (.cells #[vs, vo, vl, vf, v1] 72 (0, 0)) := h.own.obj
theorem NetW.kept (h : NetW w NB base vs vo vl vf v1 us N) (hb : Below w.heap.size w w') : NetW w' NB base vs vo vl vf v1 us N :=
  ⟨h.own.kept hb, h.len, fun i hi => (h.el i hi).mono fun k hk => ⟨⟨Nat.lt_of_lt_of_le hk.1 hb.size, hk.2⟩, hb.block k hk.1⟩⟩
theorem NetW.cells (h : NetW w NB base vs vo vl vf v1 us N) : w.cell? ⟨NB, 0, none⟩ = some vs ∧ w.cell? ⟨NB, 1, none⟩ = some vo ∧ w.cell? ⟨NB, 2, none⟩ = some vl ∧ w.cell? ⟨NB, 3, none⟩ = some vf ∧ w.cell? ⟨NB, 4, none⟩ = some v1 :=
  ⟨cell_of_row _ _ 0 _ _ _ h.obj, cell_of_row _ _ 1 _ _ _ h.obj, cell_of_row _ _ 2 _ _ _ h.obj, cell_of_row _ _ 3 _ _ _ h.obj, cell_of_row _ _ 4 _ _ _ h.obj⟩
theorem NetW.rowS (h : NetW w NB base vs vo vl vf v1 us N) : RowS w base vs N.sets := h.own.rows ⟨103, 4, vs, N.sets.length, N.sets.flatMap setC⟩ (by simp [rows5])
theorem NetW.rowO (h : NetW w NB base vs vo vl vf v1 us N) : RowZ w base vo N.of := h.own.rows ⟨3, 1, vo, N.of.length, N.of.map (Value.int .i64)⟩ (by simp [rows5])
theorem NetW.rowL (h : NetW w NB base vs vo vl vf v1 us N) : w.ownsRow base 4 1 vl N.last.length (N.last.map Value.bool) := h.own.rows ⟨4, 1, vl, N.last.length, N.last.map Value.bool⟩ (by simp [rows5])
theorem NetW.rowF (h : NetW w NB base vs vo vl vf v1 us N) : w.ownsRow base 24 1 vf N.fol.length us := h.own.rows ⟨24, 1, vf, N.fol.length, us⟩ (by simp [rows5])
theorem NetW.row1 (h : NetW w NB base vs vo vl vf v1 us N) : RowZ w base v1 N.first := h.own.rows ⟨3, 1, v1, N.first.length, N.first.map (Value.int .i64)⟩ (by simp [rows5])
/-- an append to a row, and the store of the new slice -/
theorem NetW.putS {v' : Value} {S' : List Stp} (h : NetW w NB base vs vo vl vf v1 us N) (hg : w.grownBy w' vs.ownBlock) (ho : RowS w' base v' S') (hat : v'.ownBlock = vs.ownBlock ∨ v'.ownBlock = some w.heap.size) : NetW (w'.setCell ⟨NB, 0, none⟩ v') NB base v' vo vl vf v1 us { N with sets := S' } :=
  ⟨h.own.put 0 (by simp [rows5]) ⟨103, 4, v', S'.length, S'.flatMap setC⟩ hg ho hat, h.len, fun i hi => (h.el i hi).mono fun k hk => by
    obtain ⟨h1, h2⟩ := InO.other (w := w) (w' := w') (NB := NB) (rs := rows5 vs vo vl vf v1 us N) 0 (by simp [rows5]) ⟨103, 4, v', S'.length, S'.flatMap setC⟩ hg hat hk.1 hk.2
    exact ⟨⟨by have := hg.size; have := hk.1; simp; omega, h2⟩, h1⟩⟩
theorem NetW.putO {v' : Value} {l : List Int} (h : NetW w NB base vs vo vl vf v1 us N) (hg : w.grownBy w' vo.ownBlock) (ho : RowZ w' base v' l) (hat : v'.ownBlock = vo.ownBlock ∨ v'.ownBlock = some w.heap.size) : NetW (w'.setCell ⟨NB, 1, none⟩ v') NB base vs v' vl vf v1 us { N with of := l } :=
  ⟨h.own.put 1 (by simp [rows5]) ⟨3, 1, v', l.length, l.map (Value.int .i64)⟩ hg ho hat, h.len, fun i hi => (h.el i hi).mono fun k hk => by
    obtain ⟨h1, h2⟩ := InO.other (w := w) (w' := w') (NB := NB) (rs := rows5 vs vo vl vf v1 us N) 1 (by simp [rows5]) ⟨3, 1, v', l.length, l.map (Value.int .i64)⟩ hg hat hk.1 hk.2
    exact ⟨⟨by have := hg.size; have := hk.1; simp; omega, h2⟩, h1⟩⟩
theorem NetW.putL {v' : Value} {l : List Bool} (h : NetW w NB base vs vo vl vf v1 us N) (hg : w.grownBy w' vl.ownBlock) (ho : w'.ownsRow base 4 1 v' l.length (l.map Value.bool)) (hat : v'.ownBlock = vl.ownBlock ∨ v'.ownBlock = some w.heap.size) : NetW (w'.setCell ⟨NB, 2, none⟩ v') NB base vs vo v' vf v1 us { N with last := l } :=
  ⟨h.own.put 2 (by simp [rows5]) ⟨4, 1, v', l.length, l.map Value.bool⟩ hg ho hat, h.len, fun i hi => (h.el i hi).mono fun k hk => by
    obtain ⟨h1, h2⟩ := InO.other (w := w) (w' := w') (NB := NB) (rs := rows5 vs vo vl vf v1 us N) 2 (by simp [rows5]) ⟨4, 1, v', l.length, l.map Value.bool⟩ hg hat hk.1 hk.2
    exact ⟨⟨by have := hg.size; have := hk.1; simp; omega, h2⟩, h1⟩⟩
theorem NetW.put1 {v' : Value} {l : List Int} (h : NetW w NB base vs vo vl vf v1 us N) (hg : w.grownBy w' v1.ownBlock) (ho : RowZ w' base v' l) (hat : v'.ownBlock = v1.ownBlock ∨ v'.ownBlock = some w.heap.size) : NetW (w'.setCell ⟨NB, 4, none⟩ v') NB base vs vo vl vf v' us { N with first := l } :=
  ⟨h.own.put 4 (by simp [rows5]) ⟨3, 1, v', l.length, l.map (Value.int .i64)⟩ hg ho hat, h.len, fun i hi => (h.el i hi).mono fun k hk => by
    obtain ⟨h1, h2⟩ := InO.other (w := w) (w' := w') (NB := NB) (rs := rows5 vs vo vl vf v1 us N) 4 (by simp [rows5]) ⟨3, 1, v', l.length, l.map (Value.int .i64)⟩ hg hat hk.1 hk.2
    exact ⟨⟨by have := hg.size; have := hk.1; simp; omega, h2⟩, h1⟩⟩
theorem NetW.putF {v' u : Value} {l : List Int} (h : NetW w NB base vs vo vl vf v1 us N) (hu : ElR (Far w NB (rows5 vs vo vl vf v1 us N)) w u l) (hg : w.grownBy w' vf.ownBlock) (ho : w'.ownsRow base 24 1 v' (N.fol.length + 1) (us ++ [u])) (hat : v'.ownBlock = vf.ownBlock ∨ v'.ownBlock = some w.heap.size) : NetW (w'.setCell ⟨NB, 3, none⟩ v') NB base vs vo vl v' v1 (us ++ [u]) { N with fol := N.fol ++ [l] } := by
  have hR : rows5 vs vo vl v' v1 (us ++ [u]) { N with fol := N.fol ++ [l] } = (rows5 vs vo vl vf v1 us N).set 3 ⟨24, 1, v', N.fol.length + 1, us ++ [u]⟩ := by simp [rows5]
  have hk : ∀ k, Far w NB (rows5 vs vo vl vf v1 us N) k → Far (w'.setCell ⟨NB, 3, none⟩ v') NB (rows5 vs vo vl v' v1 (us ++ [u]) { N with fol := N.fol ++ [l] }) k ∧ (w'.setCell ⟨NB, 3, none⟩ v').heap[k]? = w.heap[k]? := fun k hk => by
    obtain ⟨h1, h2⟩ := InO.other (w := w) (w' := w') (NB := NB) (rs := rows5 vs vo vl vf v1 us N) 3 (by simp [rows5]) ⟨24, 1, v', N.fol.length + 1, us ++ [u]⟩ hg hat hk.1 hk.2
    rw [hR]
    exact ⟨⟨by have := hg.size; have := hk.1; simp; omega, h2⟩, h1⟩
  refine ⟨?_, by simp [h.len], fun i hi => ?_⟩
  · rw [hR]
    exact h.own.put 3 (by simp [rows5]) ⟨24, 1, v', N.fol.length + 1, us ++ [u]⟩ hg ho hat
  · have hl := h.len
    simp only [List.length_append, List.length_cons, List.length_nil] at hi
    by_cases hi2 : i < N.fol.length
    · have e1 : (us ++ [u]).getD i undef = us.getD i undef := by rw [List.getD_eq_getElem?_getD, List.getD_eq_getElem?_getD, List.getElem?_append_left (by omega)]
      have e2 : (N.fol ++ [l]).getD i [] = N.fol.getD i [] := by rw [List.getD_eq_getElem?_getD, List.getD_eq_getElem?_getD, List.getElem?_append_left (by omega)]
      rw [e1, e2]
      exact (h.el i hi2).mono hk
    · have hi3 : i = N.fol.length := by omega
      have e1 : (us ++ [u]).getD i undef = u := by rw [List.getD_eq_getElem?_getD, hi3, ← hl, List.getElem?_append_right (Nat.le_refl _)]; simp
      have e2 : (N.fol ++ [l]).getD i [] = l := by rw [List.getD_eq_getElem?_getD, hi3, List.getElem?_append_right (Nat.le_refl _)]; simp
      rw [e1, e2]
      exact hu.mono hk
end
end Go.Proofs.YtnjjbaodfjmiaaaGreat

/- Contracts of moved and of the reference's: every spot of a list, greater by so many. -/
namespace Go.Proofs.YtnjjbaodfjmiaaaGreat
open Go.RowKit Go.Lib Go.Joins
def mvd (l : List Int) (d : Int) : List Int := l.map fun x => IntKind.i64.wrap (x + d)
theorem mvd_take (l : List Int) (d : Int) (k : Nat) (hk : k < l.length) : mvd (l.take (k + 1)) d = mvd (l.take k) d ++ [IntKind.i64.wrap (l.getD k 0 + d)] := by
  unfold mvd
  rw [List.take_succ_eq_append_getElem hk, List.map_append, List.getD_eq_getElem?_getD, List.getElem?_eq_getElem hk, Option.getD_some]
  rfl
theorem mvd_len (l : List Int) (d : Int) : (mvd l d).length = l.length := by simp [mvd]
set_option maxHeartbeats 4000000 in
set_option maxRecDepth 100000 in
theorem rmoved_calls {w : World} {v : Value} {l : List Int} (d : Int) (h : RdZ w.heap.size w v l) (hlen : l.length ≤ 10000) : Calls Tryz.prog 70 #[v, .int .i64 d] w (RetZ w (mvd l d)) := by
  obtain ⟨a, c, rfl⟩ := h.form
  have HA := hidden (fun W (hb : Below w.heap.size w W) i (hi : i < l.length) => h.atZ hb i hi)
  have HF := hidden (fun k (hk : k < l.length) => mvd_take l d k hk)
  have HFL := hidden (fun k (hk : k ≤ l.length) => (show (mvd (l.take k) d).length = k by rw [mvd_len, List.length_take]; omega))
  have HE := hidden (show mvd (l.take l.length) d = mvd l d by rw [List.take_length])
  have HN0 := hidden (show RowZ (w.alloc (.cells #[] 3)) w.heap.size (.slice (some ⟨w.heap.size, 0, none⟩) 0 0) (mvd (l.take 0) d) from by simpa [mvd] using RowZ.lit w _ rfl #[] rfl)
  obtain ⟨m, hm⟩ : ∃ m, m = l.length := ⟨_, rfl⟩
  rw [← hm] at HA HF HFL HE hlen ⊢
  clear h hm
  go_enter Tryz.func70, Tryz.ntmps70
  go_wp2
  go_loopw [5, 6] (fun v i wr => ∃ (k : Nat) (o : Value), k ≤ m ∧ o = v ∧ i = .int .i64 k ∧ RowZ wr w.heap.size o (mvd (l.take k) d) ∧ Below w.heap.size w wr) (fun _ i _ => m - (Go.RowKit.intOf i).toNat)
  case atStart => exact ⟨0, _, by omega, rfl, rfl, HN0.out, (Below.refl w.heap.size w).alloc (Nat.le_refl _) _⟩
  case round =>
    clear HN0
    obtain ⟨k, o, hk, rfl, rfl, hG, hb3⟩ := hrel
    have HG := hidden hG
    have HB := hidden hb3
    clear hG hb3
    by_cases hlt : k < m
    · obtain ⟨ba, oa, rfl, _, c0⟩ := HA.out wr HB.out k hlt
      have HK := hidden (HF.out k hlt)
      have hl := HFL.out k hk
      generalize l.getD k 0 = x at *
      obtain ⟨y, hy⟩ : ∃ y, y = IntKind.i64.wrap (x + d) := ⟨_, rfl⟩
      have hy1 : IntKind.i64.wrap (x + d) = y := hy.symm
      have hy2 : wrap64 (x + d) = y := by rw [hy]; simp [IntKind.wrap_i64, wrap64]
      rw [hy1] at HK
      clear hy
      have HR := hidden (HG.out.kept ((Below.refl wr.heap.size wr).alloc (Nat.le_refl _) (.cells #[.int .i64 y] 3)))
      have HBA := hidden (HB.out.alloc HB.out.size (.cells #[.int .i64 y] 3))
      have hsz := HB.out.size
      go_wp2_with (at_builtin; refine app_z rfl _ _ rfl rfl HR.out rfl (heap_alloc_new wr _) hl (by omega) (by simp; omega) ?_; intro g' c' w3 hr3 hg3 hb3; have HR3 := hidden hr3; have HB3 := hidden (HBA.out.trans hb3); clear hr3 hg3 hb3)
      go_roundw
      case rel => exact ⟨k + 1, _, by omega, rfl, by go_num, by rw [HK.out]; exact HR3.out, HB3.out⟩
      case measure => simp [Go.RowKit.intOf]; omega
    · have e : k = m := by omega
      subst e
      go_wp2
      go_ret
      rw [HE.out] at HG
      exact ⟨_, rfl, HG.out, HB.out⟩
end Go.Proofs.YtnjjbaodfjmiaaaGreat
