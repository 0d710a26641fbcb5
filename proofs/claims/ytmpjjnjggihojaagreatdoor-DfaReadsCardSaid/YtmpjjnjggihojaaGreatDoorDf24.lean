/- DfBare, FuObj, FuNetW, FuApp, put together. -/
import Derived.Test.YtmpjjnjggihojaaGreatDoorDf23
import Derived.Test.YtmpjjnjggihojaaGreatDoorDf12
import Derived.Maps.AppendAt
import Derived.Laws.AppendOwnNone
import Derived.RegionTactic
/- The program's way to the lists: a net in which all spots are first and none follows; what follows the spots of a list, sorted; for each class those that have its bytes. -/
namespace Go.Proofs.YtmpjjnjggihojaaGreatDoor
open Go.RowKit

/-- all spots are first, and none follows -/
def bareN (N : NetM) : NetM := ⟨N.sets, N.of, N.last, List.replicate N.sets.length [], spI (List.range N.sets.length)⟩
theorem range_up (n : Nat) : (spI (List.range n)).Pairwise (· < ·) := spI_up List.pairwise_lt_range
theorem mem_range14 (n : Nat) (x : Int) : x ∈ spI (List.range n) ↔ 0 ≤ x ∧ x < n := by
  rw [mem_spIZ]
  constructor
  · rintro ⟨p, rfl, hp⟩
    have := List.mem_range.1 hp
    omega
  · intro h
    exact ⟨x.toNat, by omega, List.mem_range.2 (by omega)⟩
theorem bare_right {N : NetM} (h : rightB N = true) : rightB (bareN N) = true := by
  obtain ⟨⟨h1, h2, _⟩, _, h5⟩ := (rightB_iff N).1 h
  refine (rightB_iff _).2 ⟨⟨h1, h2, List.length_replicate ..⟩, ?_, fun i hi => ?_⟩
  · show spotsB (spI (List.range N.sets.length)) N.sets.length = true
    unfold spotsB upB
    rw [decide_eq_true (show Up _ from range_up _), Bool.true_and, List.all_eq_true]
    intro x hx
    have := (mem_range14 _ x).1 hx
    simp only [Bool.and_eq_true, decide_eq_true_eq]
    exact this
  · have h6 := h5 i hi
    unfold rowB at h6 ⊢
    rw [Bool.and_eq_true] at h6 ⊢
    refine ⟨h6.1, ?_⟩
    have e : (bareN N).fol.getD i [] = [] := by
      show (List.replicate N.sets.length ([] : List Int)).getD i [] = []
      rw [List.getD_eq_getElem?_getD, List.getElem?_replicate]
      split <;> rfl
    rw [e]
    unfold spotsB upB
    rw [decide_eq_true (show Up [] from List.Pairwise.nil)]
    rfl
theorem bare_token {N : NetM} (h : rightB N = true) (l : List Int) : tokenM (bareN N) l = tokenM N l := by
  unfold tokenM
  rw [if_pos h, if_pos (bare_right h)]
  rfl
theorem bare_start {N : NetM} (h : rightB N = true) (b : Nat) : startM (bareN N) b = hits (fun q => selB N.sets b q) N.sets.length := by
  unfold startM
  rw [if_pos (bare_right h)]
  refine hits_same14 fun q hq => ?_
  unfold withG
  rw [decide_eq_true (show (q : Int) ∈ (bareN N).first from (mem_range14 _ _).2 (by have : q < N.sets.length := hq; omega)), Bool.true_and]
  rfl
/-- has spot q the bytes of class c? -/
def hasC (N : NetM) (c : Nat) (q : Nat) : Bool := selB N.sets (lf (netK N) c) (q : Int)
/-- the spots with the bytes of class c -/
def withC (N : NetM) (c : Nat) : List Nat := hits (hasC N c) N.sets.length
theorem bare_startC {N : NetM} (h : rightB N = true) (c : Nat) : startM (bareN N) (lf (netK N) c) = withC N c := bare_start h _
/-- the classes of spot q below c -/
def clsU (N : NetM) (q : Nat) (c : Nat) : List Nat := hits (fun c => hasC N c q) c
theorem clsU_zero (N : NetM) (q : Nat) : clsU N q 0 = [] := rfl
theorem clsU_more (N : NetM) (q c : Nat) : clsU N q (c + 1) = if hasC N c q = true then clsU N q c ++ [c] else clsU N q c := by
  unfold clsU hits
  rw [List.range_succ, List.filter_append]
  by_cases h : hasC N c q = true
  · rw [if_pos h]
    simp [h]
  · rw [if_neg h]
    simp [h]
theorem clsU_len (N : NetM) (q c : Nat) : (clsU N q c).length ≤ c := hits_len _ _
theorem clsU_lt (N : NetM) (q c : Nat) : ∀ x ∈ clsU N q c, x < c := fun _ hx => ((hits_mem _ _ _).1 hx).1
/-- the classes of spot q when class c has been met at the first j of its spots -/
def clsJ (N : NetM) (c j q : Nat) : List Nat := if q ∈ (withC N c).take j then clsU N q c ++ [c] else clsU N q c
theorem clsJ_zero (N : NetM) (c q : Nat) : clsJ N c 0 q = clsU N q c := by unfold clsJ; rw [if_neg (by simp)]
theorem clsJ_all (N : NetM) (c q : Nat) (hq : q < N.sets.length) : clsJ N c (withC N c).length q = clsU N q (c + 1) := by
  unfold clsJ
  rw [List.take_of_length_le (Nat.le_refl _), clsU_more]
  have e : q ∈ withC N c ↔ hasC N c q = true := by
    unfold withC
    rw [hits_mem]
    exact ⟨fun h => h.2, fun h => ⟨hq, h⟩⟩
  by_cases h : hasC N c q = true
  · rw [if_pos h, if_pos (e.2 h)]
  · rw [if_neg h, if_neg (fun h2 => h (e.1 h2))]
theorem take_snoc {α : Type} (l : List α) (k : Nat) (h : k < l.length) : l.take (k + 1) = l.take k ++ [l[k]] := List.take_succ_eq_append_getElem h
theorem nodup_take_not {l : List Nat} (h : l.Nodup) {k : Nat} (hk : k < l.length) : l[k] ∉ l.take k := by
  intro hm
  obtain ⟨i, hi, e⟩ := List.getElem_of_mem hm
  rw [List.length_take] at hi
  rw [List.getElem_take] at e
  have h2 := List.pairwise_iff_getElem.1 h i k (by omega) hk (by omega)
  exact h2 e
theorem hits_nodup (G : Nat → Bool) (n : Nat) : (hits G n).Nodup := (hits_up G n).imp fun h => by omega
theorem clsJ_more (N : NetM) (c j : Nat) (hj : j < (withC N c).length) (q : Nat) : clsJ N c (j + 1) q = if q = (withC N c)[j] then clsJ N c j q ++ [c] else clsJ N c j q := by
  unfold clsJ
  rw [take_snoc _ _ hj]
  have hn := nodup_take_not (hits_nodup _ _ : (withC N c).Nodup) hj
  by_cases e : q = (withC N c)[j]
  · rw [if_pos e, if_pos (by rw [List.mem_append]; exact .inr (by simp [e])), if_neg (by rw [e]; exact hn)]
  · rw [if_neg e]
    by_cases h : q ∈ (withC N c).take j
    · rw [if_pos h, if_pos (List.mem_append.2 (.inl h))]
    · rw [if_neg h, if_neg (fun h2 => by
        rcases List.mem_append.1 h2 with h2 | h2
        · exact h h2
        · exact e (by simpa using h2))]
/-- what comes next from a state -/
def nxtL (N : NetM) (i : Nat) (l : List Int) : List Int := if i = 0 then N.first else spI (hits (nextB N l) N.sets.length)
theorem nxt_up {N : NetM} (h : rightB N = true) (i : Nat) (l : List Int) : (nxtL N i l).Pairwise (· < ·) ∧ ∀ x ∈ nxtL N i l, 0 ≤ x ∧ x < N.sets.length := by
  unfold nxtL
  split
  · exact right_first h
  · refine ⟨spI_up (hits_up _ _), fun x hx => ?_⟩
    obtain ⟨p, rfl, hp⟩ := (mem_spIZ _ _).1 hx
    have := ((hits_mem _ _ _).1 hp).1
    omega
/-- for each class those that have its bytes -/
theorem nxt_go {N : NetM} (h : rightB N = true) (i : Nat) (l : List Int) (c : Nat) : (nxtL N i l).filter (fun x => hasC N c x.toNat) = goN N i l c := by
  have hu := nxt_up h i l
  have e : (nxtL N i l).filter (fun x => hasC N c x.toNat) = (nxtL N i l).filter (selB N.sets (lf (netK N) c)) := by
    refine List.filter_congr fun x hx => ?_
    have := hu.2 x hx
    unfold hasC
    rw [show ((x.toNat : Nat) : Int) = x by omega]
  rw [e, filter_with hu.1 hu.2]
  unfold goN nxtL
  by_cases h0 : i = 0
  · rw [if_pos h0, if_pos h0]
    unfold startM
    rw [if_pos h]
  · rw [if_neg h0, if_neg h0]
    unfold stepM
    rw [if_pos h]
    congr 1
    refine hits_same14 fun q hq => ?_
    unfold withG
    congr 1
    rw [Bool.eq_iff_iff, decide_eq_true_eq, mem_spIZ]
    constructor
    · rintro ⟨p, e, hp⟩
      obtain rfl : q = p := by omega
      exact ((hits_mem _ _ _).1 hp).2
    · intro hq2
      exact ⟨q, rfl, (hits_mem _ _ _).2 ⟨hq, hq2⟩⟩
/-- the lists when j spots have been put to their classes, and i of the classes of the next one -/
def lstJ (N : NetM) (X : List Int) (j i c : Nat) : List Int :=
  (X.take j).filter (fun x => hasC N c x.toNat) ++ (if c ∈ (clsU N (X.getD j 0).toNat (widN N)).take i then [X.getD j 0] else [])
theorem lstJ_start (N : NetM) (X : List Int) (c : Nat) : lstJ N X 0 0 c = [] := by
  unfold lstJ
  rw [if_neg (by simp)]
  rfl
theorem lstJ_more (N : NetM) (X : List Int) (j i : Nat) (hi : i < (clsU N (X.getD j 0).toNat (widN N)).length) (c : Nat) :
    lstJ N X j (i + 1) c = if c = (clsU N (X.getD j 0).toNat (widN N))[i] then lstJ N X j i c ++ [X.getD j 0] else lstJ N X j i c := by
  unfold lstJ
  rw [take_snoc _ _ hi]
  have hn := nodup_take_not (hits_nodup _ _ : (clsU N (X.getD j 0).toNat (widN N)).Nodup) hi
  by_cases e : c = (clsU N (X.getD j 0).toNat (widN N))[i]
  · rw [if_pos e, if_pos (by rw [List.mem_append]; exact .inr (by simp [e])), if_neg (by rw [e]; exact hn), List.append_nil]
  · rw [if_neg e]
    congr 1
    by_cases h : c ∈ (clsU N (X.getD j 0).toNat (widN N)).take i
    · rw [if_pos h, if_pos (List.mem_append.2 (.inl h))]
    · rw [if_neg h, if_neg (fun h2 => by
        rcases List.mem_append.1 h2 with h2 | h2
        · exact h h2
        · exact e (by simpa using h2))]
theorem lstJ_next (N : NetM) (X : List Int) (j : Nat) (hj : j < X.length) (c : Nat) (hc : c < widN N) : lstJ N X j (clsU N (X.getD j 0).toNat (widN N)).length c = lstJ N X (j + 1) 0 c := by
  unfold lstJ
  rw [List.take_of_length_le (Nat.le_refl _), if_neg (show ¬ c ∈ List.take 0 _ by simp), List.append_nil, take_snoc _ _ hj, List.filter_append]
  have hx : X.getD j 0 = X[j] := by rw [List.getD_eq_getElem?_getD, List.getElem?_eq_getElem hj]; rfl
  rw [hx]
  congr 1
  have e : c ∈ clsU N (X[j]).toNat (widN N) ↔ hasC N c (X[j]).toNat = true := by
    unfold clsU
    rw [hits_mem]
    exact ⟨fun h => h.2, fun h => ⟨hc, h⟩⟩
  by_cases h : hasC N c (X[j]).toNat = true
  · rw [if_pos (e.2 h)]; simp [h]
  · rw [if_neg (fun h2 => h (e.1 h2))]; simp [h]
theorem lstJ_all {N : NetM} (h : rightB N = true) (i : Nat) (l : List Int) (c : Nat) : lstJ N (nxtL N i l) (nxtL N i l).length 0 c = goN N i l c := by
  unfold lstJ
  rw [List.take_of_length_le (Nat.le_refl _), if_neg (by simp), List.append_nil, nxt_go h]
/-- what has been met of those that follow: k spots of the list, and j of those that follow the next one -/
def MetL (N : NetM) (l : List Int) (k j : Nat) (x : Int) : Prop := (∃ i, i < k ∧ x ∈ N.fol.getD (l.getD i 0).toNat []) ∨ x ∈ (N.fol.getD (l.getD k 0).toNat []).take j
theorem MetL.start (N : NetM) (l : List Int) (x : Int) : ¬ MetL N l 0 0 x := by
  rintro (⟨i, h, _⟩ | h)
  · omega
  · simp at h
theorem MetL.more (N : NetM) (l : List Int) (k j : Nat) (hj : j < (N.fol.getD (l.getD k 0).toNat []).length) (x : Int) : MetL N l k (j + 1) x ↔ MetL N l k j x ∨ x = (N.fol.getD (l.getD k 0).toNat []).getD j 0 := by
  unfold MetL
  rw [take_snoc _ _ hj, List.mem_append, List.mem_singleton, ← or_assoc, List.getD_eq_getElem?_getD (l := N.fol.getD (l.getD k 0).toNat []), List.getElem?_eq_getElem hj]
  rfl
theorem MetL.next (N : NetM) (l : List Int) (k : Nat) (x : Int) : MetL N l k (N.fol.getD (l.getD k 0).toNat []).length x ↔ MetL N l (k + 1) 0 x := by
  unfold MetL
  rw [List.take_of_length_le (Nat.le_refl _)]
  constructor
  · rintro (⟨i, h, h2⟩ | h)
    · exact .inl ⟨i, by omega, h2⟩
    · exact .inl ⟨k, by omega, h⟩
  · rintro (⟨i, h, h2⟩ | h)
    · by_cases e : i = k
      · subst e; exact .inr h2
      · exact .inl ⟨i, by omega, h2⟩
    · simp at h
/-- what is met, sorted, is what follows -/
theorem met_sorted {N : NetM} (h : rightB N = true) {l m : List Int} (hl : ∀ x ∈ l, 0 ≤ x ∧ x < N.sets.length) (hn : m.Nodup) (hm : ∀ x, x ∈ m ↔ MetL N l l.length 0 x) :
    (m.mergeSort fun x y => decide (x ≤ y)) = spI (hits (nextB N l) N.sets.length) := by
  have hs : (m.mergeSort fun x y => decide (x ≤ y)).Pairwise fun x y => x ≤ y := by
    have := List.pairwise_mergeSort (le := fun x y : Int => decide (x ≤ y)) (by intro a b c; simp; omega) (by intro a b; simp; omega) m
    exact this.imp fun h => by simpa using h
  have hp := List.mergeSort_perm m fun x y => decide (x ≤ y)
  have hd : (m.mergeSort fun x y => decide (x ≤ y)).Nodup := hp.nodup_iff.2 hn
  refine zup_ext ((List.pairwise_and_iff.2 ⟨hs, hd⟩).imp fun h => by omega) (spI_up (hits_up _ _)) fun x => ?_
  rw [hp.mem_iff, hm, mem_spIZ]
  constructor
  · rintro (⟨i, hi, hx⟩ | hx)
    · have hg : l.getD i 0 = l[i] := by rw [List.getD_eq_getElem?_getD, List.getElem?_eq_getElem hi]; rfl
      have hb := hl _ (List.getElem_mem hi)
      rw [hg] at hx
      have hx2 := (right_fol h (l[i]).toNat (by omega)).2 x hx
      refine ⟨x.toNat, by omega, (hits_mem _ _ _).2 ⟨by omega, ?_⟩⟩
      unfold nextB
      rw [List.any_eq_true]
      refine ⟨l[i], List.getElem_mem hi, ?_⟩
      simp only [Bool.and_eq_true, decide_eq_true_eq]
      exact ⟨hb.1, hb.2, by rw [show ((x.toNat : Nat) : Int) = x by omega]; exact hx⟩
    · simp at hx
  · rintro ⟨p, rfl, hp2⟩
    obtain ⟨_, h2⟩ := (hits_mem _ _ _).1 hp2
    unfold nextB at h2
    rw [List.any_eq_true] at h2
    obtain ⟨y, hy, h3⟩ := h2
    simp only [Bool.and_eq_true, decide_eq_true_eq] at h3
    obtain ⟨i, hi, rfl⟩ := List.getElem_of_mem hy
    refine .inl ⟨i, hi, ?_⟩
    have hg : l.getD i 0 = l[i] := by rw [List.getD_eq_getElem?_getD, List.getElem?_eq_getElem hi]; rfl
    rw [hg]
    exact h3.2.2
end Go.Proofs.YtmpjjnjggihojaaGreatDoor

/- An object of slices that the call owns, each a row of its own: appended to one at a time. -/
namespace Go.Proofs.YtmpjjnjggihojaaGreatDoor
open Go.RowKit Go.Lib Go.Joins
/-- a row: the element's type and size, the slice, its length and cells -/
structure R5 where
  t : TypeId
  sz : Nat
  v : Value
  n : Nat
  xs : List Value
def R5.at (w : World) (base : Nat) (r : R5) : Prop := w.ownsRow base r.t r.sz r.v r.n r.xs
def away (u v : Value) : Prop := u.ownBlock = none ∨ u.ownBlock ≠ v.ownBlock
theorem away.symm {u v : Value} (h : away u v) : away v u := by
  unfold away at *
  cases hv : v.ownBlock with
  | none => exact .inl rfl
  | some x =>
    right
    intro e
    rcases h with h | h
    · rw [h] at e; cases e
    · exact h (by rw [hv, e])
/-- block NB holds the slices of rows rs, which lie apart -/
structure ObjR (w : World) (NB base : Nat) (T : TypeId) (rs : List R5) : Prop where
  obj : w.heap[NB]? = some (.cells (rs.map (·.v)).toArray T (0, 0))
  rows : ∀ r ∈ rs, r.at w base
  apart : rs.Pairwise fun r s => away r.v s.v
  out : ∀ r ∈ rs, r.v.ownBlock ≠ some NB
/-- a block of the object -/
def InO (NB : Nat) (rs : List R5) (k : Nat) : Prop := k = NB ∨ ∃ r ∈ rs, r.v.ownBlock = some k
section
variable {w w' : World} {NB base : Nat} {T : TypeId} {rs : List R5}
theorem ObjR.lt (h : ObjR w NB base T rs) : NB < w.heap.size := (Array.getElem?_eq_some_iff.1 h.obj).1
theorem ObjR.kept (h : ObjR w NB base T rs) (hb : Below w.heap.size w w') : ObjR w' NB base T rs :=
  ⟨(hb.block NB h.lt).trans h.obj, fun r hr => World.ownsRow.kept (row := none) (h.rows r hr) ⟨hb.os, hb.tape, hb.output, hb.size, fun k hk _ => hb.block k hk⟩ (by cases r.v.ownBlock <;> simp), h.apart, h.out⟩
theorem ObjR.cell (h : ObjR w NB base T rs) (i : Nat) : w.cell? ⟨NB, i, none⟩ = (rs.map (·.v))[i]? := by
  rw [cell_of_row w NB i _ _ _ h.obj, List.getElem?_toArray]
theorem ObjR.ltO (h : ObjR w NB base T rs) {k : Nat} (hk : InO NB rs k) : k < w.heap.size := by
  rcases hk with rfl | ⟨r, hr, e⟩
  · exact h.lt
  · exact ((h.rows r hr).lt k e).2
theorem away_at : ∀ {rs : List R5}, rs.Pairwise (fun r s => away r.v s.v) → ∀ i (hi : i < rs.length) j (hj : j < rs.length), i ≠ j → away rs[i].v rs[j].v := fun {rs} h i hi j hj hne => by
  rcases Nat.lt_or_gt_of_ne hne with hlt | hlt
  · exact List.pairwise_iff_getElem.1 h i j hi hj hlt
  · exact (List.pairwise_iff_getElem.1 h j i hj hi hlt).symm
/-- behind an append to row i, whose new slice is stored -/
theorem ObjR.put (h : ObjR w NB base T rs) (i : Nat) (hi : i < rs.length) (r' : R5) (hg : w.grownBy w' rs[i].v.ownBlock) (ho : r'.at w' base) (hat : r'.v.ownBlock = rs[i].v.ownBlock ∨ r'.v.ownBlock = some w.heap.size) :
    ObjR (w'.setCell ⟨NB, i, none⟩ r'.v) NB base T (rs.set i r') := by
  have hNB : w'.heap[NB]? = some (.cells (rs.map (·.v)).toArray T (0, 0)) := (hg.block NB h.lt (fun e => h.out _ (List.getElem_mem hi) e.symm)).trans h.obj
  have hnew : ∀ k, r'.v.ownBlock = some k → k ≠ NB := by
    intro k hk e
    subst e
    rcases hat with e | e
    · exact h.out _ (List.getElem_mem hi) (e ▸ hk)
    · rw [e] at hk
      have := h.lt
      simp only [Option.some.injEq] at hk
      omega
  have hgs : w'.grownBy (w'.setCell ⟨NB, i, none⟩ r'.v) (some NB) := ⟨rfl, rfl, rfl, by simp, fun k _ hk => heap_setCell_other _ _ _ _ (fun e => hk (by rw [e]))⟩
  have haw : ∀ j (hj : j < rs.length), j ≠ i → away r'.v rs[j].v := by
    intro j hj hne
    rcases hat with e | e
    · have := away_at h.apart i hi j hj (Ne.symm hne)
      unfold away at *
      rw [e]
      exact this
    · right
      rw [e]
      intro e2
      have := ((h.rows _ (List.getElem_mem hj)).lt _ e2.symm).2
      omega
  refine ⟨?_, ?_, ?_, ?_⟩
  · rw [heap_setCell_same _ _ _ _ _ _ hNB, List.map_set]
    simp
  · intro r hr
    obtain ⟨j, hj, rfl⟩ := List.getElem_of_mem hr
    rw [List.length_set] at hj
    rw [List.getElem_set]
    by_cases e : i = j
    · rw [if_pos e]
      exact World.ownsRow.kept ho hgs (by
        cases hv : r'.v.ownBlock with
        | none => exact .inl rfl
        | some k => exact .inr (fun e => hnew k hv (by simpa using e)))
    · rw [if_neg e]
      have h1 : (rs[j]).at w' base := World.ownsRow.kept (h.rows _ (List.getElem_mem hj)) hg (away_at h.apart j hj i hi (Ne.symm e))
      exact World.ownsRow.kept h1 hgs (.inr (h.out _ (List.getElem_mem hj)))
  · rw [List.pairwise_iff_getElem]
    intro a b ha hb hab
    rw [List.length_set] at ha hb
    rw [List.getElem_set, List.getElem_set]
    by_cases e1 : i = a
    · subst e1
      rw [if_pos rfl, if_neg (by omega)]
      exact haw b hb (by omega)
    · rw [if_neg e1]
      by_cases e2 : i = b
      · subst e2
        rw [if_pos rfl]
        exact (haw a ha (by omega)).symm
      · rw [if_neg e2]
        exact away_at h.apart a ha b hb (by omega)
  · intro r hr
    obtain ⟨j, hj, rfl⟩ := List.getElem_of_mem hr
    rw [List.length_set] at hj
    rw [List.getElem_set]
    by_cases e : i = j
    · rw [if_pos e]
      exact fun e => hnew NB e rfl
    · rw [if_neg e]
      exact h.out _ (List.getElem_mem hj)
/-- a block that is none of the object's stays none, and as it was -/
theorem InO.other (i : Nat) (hi : i < rs.length) (r' : R5) (hg : w.grownBy w' rs[i].v.ownBlock) (hat : r'.v.ownBlock = rs[i].v.ownBlock ∨ r'.v.ownBlock = some w.heap.size) {k : Nat} (hk : k < w.heap.size) (hn : ¬ InO NB rs k) :
    (w'.setCell ⟨NB, i, none⟩ r'.v).heap[k]? = w.heap[k]? ∧ ¬ InO NB (rs.set i r') k := by
  have h1 : k ≠ NB := fun e => hn (.inl e)
  have h2 : ∀ r ∈ rs, r.v.ownBlock ≠ some k := fun r hr e => hn (.inr ⟨r, hr, e⟩)
  refine ⟨(heap_setCell_other _ _ _ _ h1).trans (hg.block k hk (fun e => h2 _ (List.getElem_mem hi) e.symm)), ?_⟩
  rintro (e | ⟨r, hr, e⟩)
  · exact h1 e
  · rcases List.mem_or_eq_of_mem_set hr with hr | rfl
    · exact h2 r hr e
    · rcases hat with e2 | e2
      · exact h2 _ (List.getElem_mem hi) (e2.symm.trans e)
      · rw [e2] at e
        simp only [Option.some.injEq] at e
        omega
end
end Go.Proofs.YtmpjjnjggihojaaGreatDoor

/- A net that a call builds behind a pointer: its five rows, and what the lists of follow read as. -/
namespace Go.Proofs.YtmpjjnjggihojaaGreatDoor
open Go.RowKit Go.Lib Go.Joins
/-- a slice of numbers in a block of this kind -/
def ElR (P : Nat → Prop) (w : World) (v : Value) (l : List Int) : Prop := ∃ a cap, v = .slice a l.length cap ∧ l.length ≤ cap ∧ cap ≤ maxLen ∧ (a = none → cap = 0) ∧ (0 < l.length → ∃ b off, a = some ⟨b, off, none⟩ ∧ P b ∧ ∀ i, i < l.length → w.cell? ⟨b, off + i, none⟩ = some (.int .i64 (l.getD i 0)))
theorem ElR.mono {P P' : Nat → Prop} {w w' : World} {v : Value} {l : List Int} (h : ElR P w v l) (hk : ∀ k, P k → P' k ∧ w'.heap[k]? = w.heap[k]?) : ElR P' w' v l := by
  obtain ⟨a, cap, rfl, h1, h2, h3, h4⟩ := h
  refine ⟨a, cap, rfl, h1, h2, h3, fun hp => ?_⟩
  obtain ⟨b, off, e, hP, hc⟩ := h4 hp
  exact ⟨b, off, e, (hk b hP).1, fun i hi => (World.cell?_of_block (a := ⟨b, off + i, none⟩) (hk b hP).2).trans (hc i hi)⟩
theorem RowZ.el {w : World} {base : Nat} {v : Value} {l : List Int} (h : RowZ w base v l) : ElR (fun k => base ≤ k ∧ k < w.heap.size) w v l := by
  have h' := h
  rcases h.2 with ⟨rfl, h0⟩ | ⟨g, cap, cur, rfl, hb, hg, h1, h2, h3, h4⟩
  · exact ⟨none, 0, by rw [h0], by omega, by decide, fun _ => rfl, fun hp => by omega⟩
  · refine ⟨some ⟨g, 0, none⟩, cap, rfl, h1, h2, (fun e => by cases e), fun _ => ⟨g, 0, rfl, ⟨hb, (Array.getElem?_eq_some_iff.1 hg).1⟩, fun i hi => ?_⟩⟩
    rw [Nat.zero_add, World.ownsRow.cellAt h' i (by omega), List.getElem?_map, List.getD_eq_getElem?_getD, List.getElem?_eq_getElem hi]
    rfl
def rows5 (vs vo vl vf v1 : Value) (us : List Value) (N : NetM) : List R5 :=
  [⟨74, 4, vs, N.sets.length, N.sets.flatMap setC⟩, ⟨3, 1, vo, N.of.length, N.of.map (Value.int .i64)⟩, ⟨4, 1, vl, N.last.length, N.last.map Value.bool⟩, ⟨23, 1, vf, N.fol.length, us⟩, ⟨3, 1, v1, N.first.length, N.first.map (Value.int .i64)⟩]
/-- a block that is none of the net's own -/
def Far (w : World) (NB : Nat) (rs : List R5) (k : Nat) : Prop := k < w.heap.size ∧ ¬ InO NB rs k
structure NetW (w : World) (NB base : Nat) (vs vo vl vf v1 : Value) (us : List Value) (N : NetM) : Prop where
  own : ObjR w NB base 27 (rows5 vs vo vl vf v1 us N)
  len : us.length = N.fol.length
  el : ∀ i, i < N.fol.length → ElR (Far w NB (rows5 vs vo vl vf v1 us N)) w (us.getD i undef) (N.fol.getD i [])
section
variable {w w' : World} {NB base : Nat} {vs vo vl vf v1 : Value} {us : List Value} {N : NetM}
theorem NetW.obj (h : NetW w NB base vs vo vl vf v1 us N) : w.heap[NB]? = some (.cells #[vs, vo, vl, vf, v1] 27 (0, 0)) := h.own.obj
theorem NetW.kept (h : NetW w NB base vs vo vl vf v1 us N) (hb : Below w.heap.size w w') : NetW w' NB base vs vo vl vf v1 us N :=
  ⟨h.own.kept hb, h.len, fun i hi => (h.el i hi).mono fun k hk => ⟨⟨Nat.lt_of_lt_of_le hk.1 hb.size, hk.2⟩, hb.block k hk.1⟩⟩
theorem NetW.cells (h : NetW w NB base vs vo vl vf v1 us N) : w.cell? ⟨NB, 0, none⟩ = some vs ∧ w.cell? ⟨NB, 1, none⟩ = some vo ∧ w.cell? ⟨NB, 2, none⟩ = some vl ∧ w.cell? ⟨NB, 3, none⟩ = some vf ∧ w.cell? ⟨NB, 4, none⟩ = some v1 :=
  ⟨cell_of_row _ _ 0 _ _ _ h.obj, cell_of_row _ _ 1 _ _ _ h.obj, cell_of_row _ _ 2 _ _ _ h.obj, cell_of_row _ _ 3 _ _ _ h.obj, cell_of_row _ _ 4 _ _ _ h.obj⟩
theorem NetW.rowS (h : NetW w NB base vs vo vl vf v1 us N) : RowS w base vs N.sets := h.own.rows ⟨74, 4, vs, N.sets.length, N.sets.flatMap setC⟩ (by simp [rows5])
theorem NetW.rowO (h : NetW w NB base vs vo vl vf v1 us N) : RowZ w base vo N.of := h.own.rows ⟨3, 1, vo, N.of.length, N.of.map (Value.int .i64)⟩ (by simp [rows5])
theorem NetW.rowL (h : NetW w NB base vs vo vl vf v1 us N) : w.ownsRow base 4 1 vl N.last.length (N.last.map Value.bool) := h.own.rows ⟨4, 1, vl, N.last.length, N.last.map Value.bool⟩ (by simp [rows5])
theorem NetW.rowF (h : NetW w NB base vs vo vl vf v1 us N) : w.ownsRow base 23 1 vf N.fol.length us := h.own.rows ⟨23, 1, vf, N.fol.length, us⟩ (by simp [rows5])
theorem NetW.row1 (h : NetW w NB base vs vo vl vf v1 us N) : RowZ w base v1 N.first := h.own.rows ⟨3, 1, v1, N.first.length, N.first.map (Value.int .i64)⟩ (by simp [rows5])
/-- an append to a row, and the store of the new slice -/
theorem NetW.putS {v' : Value} {S' : List Stp} (h : NetW w NB base vs vo vl vf v1 us N) (hg : w.grownBy w' vs.ownBlock) (ho : RowS w' base v' S') (hat : v'.ownBlock = vs.ownBlock ∨ v'.ownBlock = some w.heap.size) : NetW (w'.setCell ⟨NB, 0, none⟩ v') NB base v' vo vl vf v1 us { N with sets := S' } :=
  ⟨h.own.put 0 (by simp [rows5]) ⟨74, 4, v', S'.length, S'.flatMap setC⟩ hg ho hat, h.len, fun i hi => (h.el i hi).mono fun k hk => by
    obtain ⟨h1, h2⟩ := InO.other (w := w) (w' := w') (NB := NB) (rs := rows5 vs vo vl vf v1 us N) 0 (by simp [rows5]) ⟨74, 4, v', S'.length, S'.flatMap setC⟩ hg hat hk.1 hk.2
    exact ⟨⟨by have := hg.size; have := hk.1; simp; omega, h2⟩, h1⟩⟩
theorem NetW.putO {v' : Value} {l : List Int} (h : NetW w NB base vs vo vl vf v1 us N) (hg : w.grownBy w' vo.ownBlock) (ho : RowZ w' base v' l) (hat : v'.ownBlock = vo.ownBlock ∨ v'.ownBlock = some w.heap.size) : NetW (w'.setCell ⟨NB, 1, none⟩ v') NB base vs v' vl vf v1 us { N with of := l } :=
  ⟨h.own.put 1 (by simp [rows5]) ⟨3, 1, v', l.length, l.map (Value.int .i64)⟩ hg ho hat, h.len, fun i hi => (h.el i hi).mono fun k hk => by
    obtain ⟨h1, h2⟩ := InO.other (w := w) (w' := w') (NB := NB) (rs := rows5 vs vo vl vf v1 us N) 1 (by simp [rows5]) ⟨3, 1, v', l.length, l.map (Value.int .i64)⟩ hg hat hk.1 hk.2
    exact ⟨⟨by have := hg.size; have := hk.1; simp; omega, h2⟩, h1⟩⟩
theorem NetW.putL {v' : Value} {l : List Bool} (h : NetW w NB base vs vo vl vf v1 us N) (hg : w.grownBy w' vl.ownBlock) (ho : w'.ownsRow base 4 1 v' l.length (l.map Value.bool)) (hat : v'.ownBlock = vl.ownBlock ∨ v'.ownBlock = some w.heap.size) : NetW (w'.setCell ⟨NB, 2, none⟩ v') NB base vs vo v' vf v1 us { N with last := l } :=
  ⟨h.own.put 2 (by simp [rows5]) ⟨4, 1, v', l.length, l.map Value.bool⟩ hg ho hat, h.len, fun i hi => (h.el i hi).mono fun k hk => by
    obtain ⟨h1, h2⟩ := InO.other (w := w) (w' := w') (NB := NB) (rs := rows5 vs vo vl vf v1 us N) 2 (by simp [rows5]) ⟨4, 1, v', l.length, l.map Value.bool⟩ hg hat hk.1 hk.2
    exact ⟨⟨by have := hg.size; have := hk.1; simp; omega, h2⟩, h1⟩⟩
theorem NetW.put1 {v' : Value} {l : List Int} (h : NetW w NB base vs vo vl vf v1 us N) (hg : w.grownBy w' v1.ownBlock) (ho : RowZ w' base v' l) (hat : v'.ownBlock = v1.ownBlock ∨ v'.ownBlock = some w.heap.size) : NetW (w'.setCell ⟨NB, 4, none⟩ v') NB base vs vo vl vf v' us { N with first := l } :=
  ⟨h.own.put 4 (by simp [rows5]) ⟨3, 1, v', l.length, l.map (Value.int .i64)⟩ hg ho hat, h.len, fun i hi => (h.el i hi).mono fun k hk => by
    obtain ⟨h1, h2⟩ := InO.other (w := w) (w' := w') (NB := NB) (rs := rows5 vs vo vl vf v1 us N) 4 (by simp [rows5]) ⟨3, 1, v', l.length, l.map (Value.int .i64)⟩ hg hat hk.1 hk.2
    exact ⟨⟨by have := hg.size; have := hk.1; simp; omega, h2⟩, h1⟩⟩
theorem NetW.putF {v' u : Value} {l : List Int} (h : NetW w NB base vs vo vl vf v1 us N) (hu : ElR (Far w NB (rows5 vs vo vl vf v1 us N)) w u l) (hg : w.grownBy w' vf.ownBlock) (ho : w'.ownsRow base 23 1 v' (N.fol.length + 1) (us ++ [u])) (hat : v'.ownBlock = vf.ownBlock ∨ v'.ownBlock = some w.heap.size) : NetW (w'.setCell ⟨NB, 3, none⟩ v') NB base vs vo vl v' v1 (us ++ [u]) { N with fol := N.fol ++ [l] } := by
  have hR : rows5 vs vo vl v' v1 (us ++ [u]) { N with fol := N.fol ++ [l] } = (rows5 vs vo vl vf v1 us N).set 3 ⟨23, 1, v', N.fol.length + 1, us ++ [u]⟩ := by simp [rows5]
  have hk : ∀ k, Far w NB (rows5 vs vo vl vf v1 us N) k → Far (w'.setCell ⟨NB, 3, none⟩ v') NB (rows5 vs vo vl v' v1 (us ++ [u]) { N with fol := N.fol ++ [l] }) k ∧ (w'.setCell ⟨NB, 3, none⟩ v').heap[k]? = w.heap[k]? := fun k hk => by
    obtain ⟨h1, h2⟩ := InO.other (w := w) (w' := w') (NB := NB) (rs := rows5 vs vo vl vf v1 us N) 3 (by simp [rows5]) ⟨23, 1, v', N.fol.length + 1, us ++ [u]⟩ hg hat hk.1 hk.2
    rw [hR]
    exact ⟨⟨by have := hg.size; have := hk.1; simp; omega, h2⟩, h1⟩
  refine ⟨?_, by simp [h.len], fun i hi => ?_⟩
  · rw [hR]
    exact h.own.put 3 (by simp [rows5]) ⟨23, 1, v', N.fol.length + 1, us ++ [u]⟩ hg ho hat
  · have hl := h.len
    simp only [List.length_append, List.length_cons, List.length_nil] at hi
    by_cases hi2 : i < N.fol.length
    · have e1 : (us ++ [u]).getD i undef = us.getD i undef := by rw [List.getD_eq_getElem?_getD, List.getD_eq_getElem?_getD, List.getElem?_append_left (by omega)]
      have e2 : (N.fol ++ [l]).getD i [] = N.fol.getD i [] := by rw [List.getD_eq_getElem?_getD, List.getD_eq_getElem?_getD, List.getElem?_append_left (by omega)]
      rw [e1, e2]
      exact (h.el i hi2).mono hk
    · have hi3 : i = N.fol.length := by omega
      have e1 : (us ++ [u]).getD i undef = u := by rw [List.getD_eq_getElem?_getD, hi3, ← hl, List.getElem?_append_right (Nat.le_refl _)]; simp
      have e2 : (N.fol ++ [l]).getD i [] = l := by rw [List.getD_eq_getElem?_getD, hi3, List.getElem?_append_right (Nat.le_refl _)]; simp
      rw [e1, e2]
      exact hu.mono hk
end
end Go.Proofs.YtmpjjnjggihojaaGreatDoor

/- append to a row of the call's own, whatever is appended: in a plain region and at a step of a region that draws; the new slice lies in the old block or in a new one. -/
namespace Go.Proofs.YtmpjjnjggihojaaGreatDoor
open Go.RowKit Go.Lib Go.Joins
structure Appd (w w' : World) (base : Nat) (e : TypeId) (size : Nat) (v v' : Value) (n : Nat) (xs : List Value) : Prop where
  own : w'.ownsRow base e size v' n xs
  grown : w.grownBy w' v.ownBlock
  lies : v'.ownBlock = v.ownBlock ∨ v'.ownBlock = some w.heap.size
/-- what is appended: nothing, or the cells at an address -/
def Src (w : World) (x : Value) (m : Nat) (news : List Value) : Prop := (x = .slice none 0 0 ∧ m = 0 ∧ news = []) ∨ ∃ ad c, x = .slice (some ad) m c ∧ ∀ j u, news[j]? = some u → w.cell? (ad.add j) = some u
theorem Src.row {w : World} {base : Nat} {e : TypeId} {size : Nat} {v : Value} {n : Nat} {xs : List Value} (h : w.ownsRow base e size v n xs) : Src w v n xs := by
  rcases h.2 with ⟨rfl, h0⟩ | ⟨g, cap, cur, rfl, _⟩
  · subst h0
    exact .inl ⟨rfl, rfl, List.eq_nil_of_length_eq_zero (by simpa using h.1)⟩
  · exact .inr ⟨_, _, rfl, h.cells rfl⟩
theorem Src.one (w : World) (x : Value) (t : TypeId) (b : Nat) (hb : b = w.heap.size) : Src (w.alloc (.cells #[x] t)) (.slice (some ⟨b, 0, none⟩) 1 1) 1 [x] := by
  subst hb
  exact .inr ⟨_, _, rfl, cell_one_new w x t⟩
section
variable {P : Program} {w : World} {o : Oper} {a : Act} {Q : Exit → Act → World → Prop} {base : Nat} {e t : TypeId} {z : Value} {size bytes : Nat} {v : Value} {n m : Nat} {xs news : List Value}
theorem run_app (ty : TypeId) (hi : (P.info? e).map (fun i => (i.zero, i.size, i.bytes)) = some (some z, size, bytes)) (ht : P.underlying t = some (.slice e)) (hzs : z.cells.size = size) (hsz : 0 < size) (hby : bytes ≤ 64) (hown : w.ownsRow base e size v n xs) {x : Value} (hx : Src w x m news)
    (hl : news.length = m * size) (h1 : ∀ u ∈ news, u.oneCell' = true) (hn : n + m ≤ 1000000) (hbase : base ≤ w.heap.size) :
    ∃ v' w', (Builtin.append_ #[t, t] ty #[v, x]).run P w = .ok v' w' ∧ Appd w w' base e size v v' (n + m) (xs ++ news) := by
  obtain ⟨i0, hi, hz0, hz1, hz2⟩ := info_parts hi
  rcases hx with ⟨rfl, rfl, rfl⟩ | ⟨ad, c, rfl, hc⟩
  · refine ⟨v, w, run_append_owned_none (P := P) (w := w) base t ty e i0 size ht hi v n xs hown, ?_, ⟨rfl, rfl, rfl, Nat.le_refl _, fun _ _ _ => rfl⟩, .inl rfl⟩
    rw [List.append_nil]
    exact hown
  · have hb : (n + m) * bytes ≤ 1000000 * 64 := Nat.mul_le_mul hn hby
    obtain ⟨v', w', hr, h2, h3, _, h5⟩ := run_append_own_at (P := P) w base t ty e i0 z size bytes ht hi hz0 hz1 hz2 hzs hsz v n xs hown ad m c news hl hc h1 (by unfold maxLen; omega) (by omega) hbase
    exact ⟨v', w', hr, h2, h3, h5⟩
theorem wp_app {K : Act → World → Prop} (s x : Operand) (ho : o.op = .call { callee := .builtin .append, args := #[s, x], argTypes := #[t, t] }) (hi : (P.info? e).map (fun i => (i.zero, i.size, i.bytes)) = some (some z, size, bytes)) (ht : P.underlying t = some (.slice e)) (hzs : z.cells.size = size) (hsz : 0 < size) (hby : bytes ≤ 64) (hs : a.eval s = v) (hown : w.ownsRow base e size v n xs) {u : Value} (hu : a.eval x = u) (hx : Src w u m news)
    (hl : news.length = m * size) (h1 : ∀ u ∈ news, u.oneCell' = true) (hn : n + m ≤ 1000000) (hbase : base ≤ w.heap.size)
    (h : ∀ v' w', Appd w w' base e size v v' (n + m) (xs ++ news) → K (a.put o.dst v') w') : o.wp P a w K Q := by
  obtain ⟨v', w', hr, hA⟩ := run_app o.type hi ht hzs hsz hby hown hx hl h1 hn hbase
  unfold Oper.wp execOp
  simp only [ho, resolve, invoke, builtin, Sem.run_bind, Sem.run_pure, Result.andThen_ok, List.map_toArray, List.map_cons, List.map_nil, hs, hu, hr]
  exact h v' w' hA
theorem wpList_app {ops : Array Oper} {rest : List Oper} (hgd : o.guard = none) (s x : Operand) (ho : o.op = .call { callee := .builtin .append, args := #[s, x], argTypes := #[t, t] }) (hi : (P.info? e).map (fun i => (i.zero, i.size, i.bytes)) = some (some z, size, bytes)) (ht : P.underlying t = some (.slice e)) (hzs : z.cells.size = size) (hsz : 0 < size) (hby : bytes ≤ 64) (hs : a.eval s = v) (hown : w.ownsRow base e size v n xs) {u : Value} (hu : a.eval x = u) (hx : Src w u m news)
    (hl : news.length = m * size) (h1 : ∀ u ∈ news, u.oneCell' = true) (hn : n + m ≤ 1000000) (hbase : base ≤ w.heap.size)
    (h : ∀ v' w', Appd w w' base e size v v' (n + m) (xs ++ news) → wpList P ops Q rest (a.put o.dst v') w') : wpList P ops Q (o :: rest) a w :=
  wpList_plain hgd fun _ hK => wp_app s x ho hi ht hzs hsz hby hs hown hu hx hl h1 hn hbase fun v' w' hA => hK _ _ (h v' w' hA)
theorem step_app {K : Act → World → Prop} {E : Prop} {ops : Array Oper} (hgd : o.guard = none) (s x : Operand) (ho : o.op = .call { callee := .builtin .append, args := #[s, x], argTypes := #[t, t] }) (hi : (P.info? e).map (fun i => (i.zero, i.size, i.bytes)) = some (some z, size, bytes)) (ht : P.underlying t = some (.slice e)) (hzs : z.cells.size = size) (hsz : 0 < size) (hby : bytes ≤ 64) (hs : a.eval s = v) (hown : w.ownsRow base e size v n xs) {u : Value} (hu : a.eval x = u) (hx : Src w u m news)
    (hl : news.length = m * size) (h1 : ∀ u ∈ news, u.oneCell' = true) (hn : n + m ≤ 1000000) (hbase : base ≤ w.heap.size)
    (h : ∀ v' w', Appd w w' base e size v v' (n + m) (xs ++ news) → K (a.put o.dst v') w') : if Region.wanted o (yielded ops a.tmps) = true then Oper.wp P o a w K Q else E := by
  have hw : Region.wanted o (yielded ops a.tmps) = true := by simp [Region.wanted, hgd]
  rw [if_pos hw]
  exact wp_app s x ho hi ht hzs hsz hby hs hown hu hx hl h1 hn hbase h
end
theorem infoB : (Tryz.prog.info? 4).map (fun i => (i.zero, i.size, i.bytes)) = some (some (.bool false), 1, 1) := by kernel_rfl
theorem infoZZ : (Tryz.prog.info? 23).map (fun i => (i.zero, i.size, i.bytes)) = some (some (.slice none 0 0), 1, 24) := by kernel_rfl
end Go.Proofs.YtmpjjnjggihojaaGreatDoor
