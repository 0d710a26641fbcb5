/- FuNetW, FuMoved, TypedR, SpStk, put together. -/
import Derived.Test.YtgaadndhecokfaaMu14
import Derived.Test.YtgaadndhecokfaaMu12
import Derived.Test.YtgaadndhecokfaaMu10
import Derived.Test.YtgaadndhecokfaaMu11
/- A net that a call builds behind a pointer: its five rows, and what the lists of follow read as. -/
namespace Go.Proofs.Ytgaadndhecokfaa
open Go.RowKit Go.Lib Go.Joins
/-- a slice of numbers in a block of this kind -/
def ElR (P : Nat → Prop) (w : World) (v : Value) (l : List Int) : Prop := ∃ a cap, v = .slice a l.length cap ∧ l.length ≤ cap ∧ cap ≤ maxLen ∧ (a = none → cap = 0) ∧ (0 < l.length → ∃ b off, a = some ⟨b, off, none⟩ ∧ P b ∧ ∀ i, i < l.length → w.cell? ⟨b, off + i, none⟩ = some (.int .i64 (l.getD i 0)))
theorem ElR.mono {P P' : Nat → Prop} {w w' : World} {v : Value} {l : List Int} (h : ElR P w v l) (hk : ∀ k, P k → P' k ∧ w'.heap[k]? = w.heap[k]?) : ElR P' w' v l := by
  obtain ⟨a, cap, rfl, h1, h2, h3, h4⟩ := h
  refine ⟨a, cap, rfl, h1, h2, h3, fun hp => ?_⟩
  obtain ⟨b, off, e, hP, hc⟩ := h4 hp
  exact ⟨b, off, e, (hk b hP).1, fun i hi => (World.cell?_of_block (a := ⟨b, off + i, none⟩) (hk b hP).2).trans (hc i hi)⟩
theorem RowZ.el {w : World} {base : Nat} {v : Value} {l : List Int} (h : RowZ w base v l) : ElR (fun k => base ≤ k ∧ k < w.heap.size) w v l := by
  have h' := h
  rcases h.2 with ⟨rfl, h0⟩ | ⟨g, cap, cur, rfl, hb, hg, h1, h2, h3, h4⟩
  · exact ⟨none, 0, by rw [h0], by omega, by decide, fun _ => rfl, fun hp => by omega⟩
  · refine ⟨some ⟨g, 0, none⟩, cap, rfl, h1, h2, (fun e => by cases e), fun _ => ⟨g, 0, rfl, ⟨hb, (Array.getElem?_eq_some_iff.1 hg).1⟩, fun i hi => ?_⟩⟩
    rw [Nat.zero_add, World.ownsRow.cellAt h' i (by omega), List.getElem?_map, List.getD_eq_getElem?_getD, List.getElem?_eq_getElem hi]
    rfl
def rows5 (vs vo vl vf v1 : Value) (us : List Value) (N : NetM) : List R5 :=
  [⟨90, 4, vs, N.sets.length, N.sets.flatMap setC⟩, ⟨3, 1, vo, N.of.length, N.of.map (Value.int .i64)⟩, ⟨4, 1, vl, N.last.length, N.last.map Value.bool⟩, ⟨24, 1, vf, N.fol.length, us⟩, ⟨3, 1, v1, N.first.length, N.first.map (Value.int .i64)⟩]
/-- a block that is none of the net's own -/
def Far (w : World) (NB : Nat) (rs : List R5) (k : Nat) : Prop := k < w.heap.size ∧ ¬ InO NB rs k
structure NetW (w : World) (NB base : Nat) (vs vo vl vf v1 : Value) (us : List Value) (N : NetM) : Prop where
  own : ObjR w NB base 53 (rows5 vs vo vl vf v1 us N)
  len : us.length = N.fol.length
  el : ∀ i, i < N.fol.length → ElR (Far w NB (rows5 vs vo vl vf v1 us N)) w (us.getD i undef) (N.fol.getD i [])
section
variable {w w' : World} {NB base : Nat} {vs vo vl vf v1 : Value} {us : List Value} {N : NetM}
theorem NetW.obj (h : NetW w NB base vs vo vl vf v1 us N) : w.heap[NB]? = some (.cells #[vs, vo, vl, vf, v1] 53 (0, 0)) := h.own.obj
theorem NetW.kept (h : NetW w NB base vs vo vl vf v1 us N) (hb : Below w.heap.size w w') : NetW w' NB base vs vo vl vf v1 us N :=
  ⟨h.own.kept hb, h.len, fun i hi => (h.el i hi).mono fun k hk => ⟨⟨Nat.lt_of_lt_of_le hk.1 hb.size, hk.2⟩, hb.block k hk.1⟩⟩
theorem NetW.cells (h : NetW w NB base vs vo vl vf v1 us N) : w.cell? ⟨NB, 0, none⟩ = some vs ∧ w.cell? ⟨NB, 1, none⟩ = some vo ∧ w.cell? ⟨NB, 2, none⟩ = some vl ∧ w.cell? ⟨NB, 3, none⟩ = some vf ∧ w.cell? ⟨NB, 4, none⟩ = some v1 :=
  ⟨cell_of_row _ _ 0 _ _ _ h.obj, cell_of_row _ _ 1 _ _ _ h.obj, cell_of_row _ _ 2 _ _ _ h.obj, cell_of_row _ _ 3 _ _ _ h.obj, cell_of_row _ _ 4 _ _ _ h.obj⟩
theorem NetW.rowS (h : NetW w NB base vs vo vl vf v1 us N) : RowS w base vs N.sets := h.own.rows ⟨90, 4, vs, N.sets.length, N.sets.flatMap setC⟩ (by simp [rows5])
theorem NetW.rowO (h : NetW w NB base vs vo vl vf v1 us N) : RowZ w base vo N.of := h.own.rows ⟨3, 1, vo, N.of.length, N.of.map (Value.int .i64)⟩ (by simp [rows5])
theorem NetW.rowL (h : NetW w NB base vs vo vl vf v1 us N) : w.ownsRow base 4 1 vl N.last.length (N.last.map Value.bool) := h.own.rows ⟨4, 1, vl, N.last.length, N.last.map Value.bool⟩ (by simp [rows5])
theorem NetW.rowF (h : NetW w NB base vs vo vl vf v1 us N) : w.ownsRow base 24 1 vf N.fol.length us := h.own.rows ⟨24, 1, vf, N.fol.length, us⟩ (by simp [rows5])
theorem NetW.row1 (h : NetW w NB base vs vo vl vf v1 us N) : RowZ w base v1 N.first := h.own.rows ⟨3, 1, v1, N.first.length, N.first.map (Value.int .i64)⟩ (by simp [rows5])
/-- an append to a row, and the store of the new slice -/
theorem NetW.putS {v' : Value} {S' : List Stp} (h : NetW w NB base vs vo vl vf v1 us N) (hg : w.grownBy w' vs.ownBlock) (ho : RowS w' base v' S') (hat : v'.ownBlock = vs.ownBlock ∨ v'.ownBlock = some w.heap.size) : NetW (w'.setCell ⟨NB, 0, none⟩ v') NB base v' vo vl vf v1 us { N with sets := S' } :=
  ⟨h.own.put 0 (by simp [rows5]) ⟨90, 4, v', S'.length, S'.flatMap setC⟩ hg ho hat, h.len, fun i hi => (h.el i hi).mono fun k hk => by
    obtain ⟨h1, h2⟩ := InO.other (w := w) (w' := w') (NB := NB) (rs := rows5 vs vo vl vf v1 us N) 0 (by simp [rows5]) ⟨90, 4, v', S'.length, S'.flatMap setC⟩ hg hat hk.1 hk.2
    exact ⟨⟨by have := hg.size; have := hk.1; simp; omega, h2⟩, h1⟩⟩
theorem NetW.putO {v' : Value} {l : List Int} (h : NetW w NB base vs vo vl vf v1 us N) (hg : w.grownBy w' vo.ownBlock) (ho : RowZ w' base v' l) (hat : v'.ownBlock = vo.ownBlock ∨ v'.ownBlock = some w.heap.size) : NetW (w'.setCell ⟨NB, 1, none⟩ v') NB base vs v' vl vf v1 us { N with of := l } :=
  ⟨h.own.put 1 (by simp [rows5]) ⟨3, 1, v', l.length, l.map (Value.int .i64)⟩ hg ho hat, h.len, fun i hi => (h.el i hi).mono fun k hk => by
    obtain ⟨h1, h2⟩ := InO.other (w := w) (w' := w') (NB := NB) (rs := rows5 vs vo vl vf v1 us N) 1 (by simp [rows5]) ⟨3, 1, v', l.length, l.map (Value.int .i64)⟩ hg hat hk.1 hk.2
    exact ⟨⟨by have := hg.size; have := hk.1; simp; omega, h2⟩, h1⟩⟩
theorem NetW.putL {v' : Value} {l : List Bool} (h : NetW w NB base vs vo vl vf v1 us N) (hg : w.grownBy w' vl.ownBlock) (ho : w'.ownsRow base 4 1 v' l.length (l.map Value.bool)) (hat : v'.ownBlock = vl.ownBlock ∨ v'.ownBlock = some w.heap.size) : NetW (w'.setCell ⟨NB, 2, none⟩ v') NB base vs vo v' vf v1 us { N with last := l } :=
  ⟨h.own.put 2 (by simp [rows5]) ⟨4, 1, v', l.length, l.map Value.bool⟩ hg ho hat, h.len, fun i hi => (h.el i hi).mono fun k hk => by
    obtain ⟨h1, h2⟩ := InO.other (w := w) (w' := w') (NB := NB) (rs := rows5 vs vo vl vf v1 us N) 2 (by simp [rows5]) ⟨4, 1, v', l.length, l.map Value.bool⟩ hg hat hk.1 hk.2
    exact ⟨⟨by have := hg.size; have := hk.1; simp; omega, h2⟩, h1⟩⟩
theorem NetW.put1 {v' : Value} {l : List Int} (h : NetW w NB base vs vo vl vf v1 us N) (hg : w.grownBy w' v1.ownBlock) (ho : RowZ w' base v' l) (hat : v'.ownBlock = v1.ownBlock ∨ v'.ownBlock = some w.heap.size) : NetW (w'.setCell ⟨NB, 4, none⟩ v') NB base vs vo vl vf v' us { N with first := l } :=
  ⟨h.own.put 4 (by simp [rows5]) ⟨3, 1, v', l.length, l.map (Value.int .i64)⟩ hg ho hat, h.len, fun i hi => (h.el i hi).mono fun k hk => by
    obtain ⟨h1, h2⟩ := InO.other (w := w) (w' := w') (NB := NB) (rs := rows5 vs vo vl vf v1 us N) 4 (by simp [rows5]) ⟨3, 1, v', l.length, l.map (Value.int .i64)⟩ hg hat hk.1 hk.2
    exact ⟨⟨by have := hg.size; have := hk.1; simp; omega, h2⟩, h1⟩⟩
theorem NetW.putF {v' u : Value} {l : List Int} (h : NetW w NB base vs vo vl vf v1 us N) (hu : ElR (Far w NB (rows5 vs vo vl vf v1 us N)) w u l) (hg : w.grownBy w' vf.ownBlock) (ho : w'.ownsRow base 24 1 v' (N.fol.length + 1) (us ++ [u])) (hat : v'.ownBlock = vf.ownBlock ∨ v'.ownBlock = some w.heap.size) : NetW (w'.setCell ⟨NB, 3, none⟩ v') NB base vs vo vl v' v1 (us ++ [u]) { N with fol := N.fol ++ [l] } := by
  have hR : rows5 vs vo vl v' v1 (us ++ [u]) { N with fol := N.fol ++ [l] } = (rows5 vs vo vl vf v1 us N).set 3 ⟨24, 1, v', N.fol.length + 1, us ++ [u]⟩ := by simp [rows5]
  have hk : ∀ k, Far w NB (rows5 vs vo vl vf v1 us N) k → Far (w'.setCell ⟨NB, 3, none⟩ v') NB (rows5 vs vo vl v' v1 (us ++ [u]) { N with fol := N.fol ++ [l] }) k ∧ (w'.setCell ⟨NB, 3, none⟩ v').heap[k]? = w.heap[k]? := fun k hk => by
    obtain ⟨h1, h2⟩ := InO.other (w := w) (w' := w') (NB := NB) (rs := rows5 vs vo vl vf v1 us N) 3 (by simp [rows5]) ⟨24, 1, v', N.fol.length + 1, us ++ [u]⟩ hg hat hk.1 hk.2
    rw [hR]
    exact ⟨⟨by have := hg.size; have := hk.1; simp; omega, h2⟩, h1⟩
  refine ⟨?_, by simp [h.len], fun i hi => ?_⟩
  · rw [hR]
    exact h.own.put 3 (by simp [rows5]) ⟨24, 1, v', N.fol.length + 1, us ++ [u]⟩ hg ho hat
  · have hl := h.len
    simp only [List.length_append, List.length_cons, List.length_nil] at hi
    by_cases hi2 : i < N.fol.length
    · have e1 : (us ++ [u]).getD i undef = us.getD i undef := by rw [List.getD_eq_getElem?_getD, List.getD_eq_getElem?_getD, List.getElem?_append_left (by omega)]
      have e2 : (N.fol ++ [l]).getD i [] = N.fol.getD i [] := by rw [List.getD_eq_getElem?_getD, List.getD_eq_getElem?_getD, List.getElem?_append_left (by omega)]
      rw [e1, e2]
      exact (h.el i hi2).mono hk
    · have hi3 : i = N.fol.length := by omega
      have e1 : (us ++ [u]).getD i undef = u := by rw [List.getD_eq_getElem?_getD, hi3, ← hl, List.getElem?_append_right (Nat.le_refl _)]; simp
      have e2 : (N.fol ++ [l]).getD i [] = l := by rw [List.getD_eq_getElem?_getD, hi3, List.getElem?_append_right (Nat.le_refl _)]; simp
      rw [e1, e2]
      exact hu.mono hk
end
end Go.Proofs.Ytgaadndhecokfaa

/- Contracts of moved and of the reference's: every spot of a list, greater by so many. -/
namespace Go.Proofs.Ytgaadndhecokfaa
open Go.RowKit Go.Lib Go.Joins
def mvd (l : List Int) (d : Int) : List Int := l.map fun x => IntKind.i64.wrap (x + d)
theorem mvd_take (l : List Int) (d : Int) (k : Nat) (hk : k < l.length) : mvd (l.take (k + 1)) d = mvd (l.take k) d ++ [IntKind.i64.wrap (l.getD k 0 + d)] := by
  unfold mvd
  rw [List.take_succ_eq_append_getElem hk, List.map_append, List.getD_eq_getElem?_getD, List.getElem?_eq_getElem hk, Option.getD_some]
  rfl
theorem mvd_len (l : List Int) (d : Int) : (mvd l d).length = l.length := by simp [mvd]
set_option maxHeartbeats 4000000 in
set_option maxRecDepth 100000 in
theorem rmoved_calls {w : World} {v : Value} {l : List Int} (d : Int) (h : RdZ w.heap.size w v l) (hlen : l.length ≤ 10000) : Calls Try.prog 42 #[v, .int .i64 d] w (RetZ w (mvd l d)) := by
  obtain ⟨a, c, rfl⟩ := h.form
  have HA := hidden (fun W (hb : Below w.heap.size w W) i (hi : i < l.length) => h.atZ hb i hi)
  have HF := hidden (fun k (hk : k < l.length) => mvd_take l d k hk)
  have HFL := hidden (fun k (hk : k ≤ l.length) => (show (mvd (l.take k) d).length = k by rw [mvd_len, List.length_take]; omega))
  have HE := hidden (show mvd (l.take l.length) d = mvd l d by rw [List.take_length])
  have HN0 := hidden (show RowZ (w.alloc (.cells #[] 3)) w.heap.size (.slice (some ⟨w.heap.size, 0, none⟩) 0 0) (mvd (l.take 0) d) from by simpa [mvd] using RowZ.lit w _ rfl #[] rfl)
  obtain ⟨m, hm⟩ : ∃ m, m = l.length := ⟨_, rfl⟩
  rw [← hm] at HA HF HFL HE hlen ⊢
  clear h hm
  go_enter Try.func42, Try.ntmps42
  go_wp2
  go_loopw [5, 6] (fun v i wr => ∃ (k : Nat) (o : Value), k ≤ m ∧ o = v ∧ i = .int .i64 k ∧ RowZ wr w.heap.size o (mvd (l.take k) d) ∧ Below w.heap.size w wr) (fun _ i _ => m - (Go.RowKit.intOf i).toNat)
  case atStart => exact ⟨0, _, by omega, rfl, rfl, HN0.out, (Below.refl w.heap.size w).alloc (Nat.le_refl _) _⟩
  case round =>
    clear HN0
    obtain ⟨k, o, hk, rfl, rfl, hG, hb3⟩ := hrel
    have HG := hidden hG
    have HB := hidden hb3
    clear hG hb3
    by_cases hlt : k < m
    · obtain ⟨ba, oa, rfl, _, c0⟩ := HA.out wr HB.out k hlt
      have HK := hidden (HF.out k hlt)
      have hl := HFL.out k hk
      generalize l.getD k 0 = x at *
      obtain ⟨y, hy⟩ : ∃ y, y = IntKind.i64.wrap (x + d) := ⟨_, rfl⟩
      have hy1 : IntKind.i64.wrap (x + d) = y := hy.symm
      have hy2 : wrap64 (x + d) = y := by rw [hy]; simp [IntKind.wrap_i64, wrap64]
      rw [hy1] at HK
      clear hy
      have HR := hidden (HG.out.kept ((Below.refl wr.heap.size wr).alloc (Nat.le_refl _) (.cells #[.int .i64 y] 3)))
      have HBA := hidden (HB.out.alloc HB.out.size (.cells #[.int .i64 y] 3))
      have hsz := HB.out.size
      go_wp2_with (at_builtin; refine app_z rfl _ _ rfl rfl HR.out rfl (heap_alloc_new wr _) hl (by omega) (by simp; omega) ?_; intro g' c' w3 hr3 hg3 hb3; have HR3 := hidden hr3; have HB3 := hidden (HBA.out.trans hb3); clear hr3 hg3 hb3)
      go_roundw
      case rel => exact ⟨k + 1, _, by omega, rfl, by go_num, by rw [HK.out]; exact HR3.out, HB3.out⟩
      case measure => simp [Go.RowKit.intOf]; omega
    · have e : k = m := by omega
      subst e
      go_wp2
      go_ret
      rw [HE.out] at HG
      exact ⟨_, rfl, HG.out, HB.out⟩
end Go.Proofs.Ytgaadndhecokfaa

/- The law of regions that draw their order, operation by operation (XTypedL), for any relation between worlds: callees may turn memory. -/
namespace Go.Proofs.Ytgaadndhecokfaa.Rl
open Go.RowKit

section
variable {R : World → World → Prop} {P : Program} {ops : Array Oper} {Q : Exit → Act → World → Prop} {T : Nat → Value → World → Prop} {W : World → Prop} {a0 : Act}

/-- what is known of a frame that may stand in the midst of the region: the slots that the region does not write are as they were -/
structure Still (ops : Array Oper) (a0 a : Act) : Prop where
  size : a.tmps.size = a0.tmps.size
  defers : a.defers = a0.defers
  slot : ∀ d, (ops.all fun o => o.dst != some d) = true → a.tmps.getD d undef = a0.tmps.getD d undef
/-- the operations that o waits for have left what they leave -/
def Ahead (ops : Array Oper) (T : Nat → Value → World → Prop) (o : Oper) (a : Act) (w : World) : Prop :=
  ∀ e ∈ o.after, Region.binds .any e = true → ∀ d, (ops[e.on]?).bind (·.dst) = some d → T e.on (a.tmps.getD d undef) w
/-- what an operation leaves -/
def Leaves (R : World → World → Prop) (T : Nat → Value → World → Prop) (W : World → Prop) (j : Nat) (o : Oper) (a : Act) (w : World) (a' : Act) (w' : World) : Prop :=
  ∃ v, a' = a.put o.dst v ∧ (o.dst ≠ none → T j v w') ∧ W w' ∧ R w w'

structure Mid (ops : Array Oper) (T : Nat → Value → World → Prop) (W : World → Prop) (a0 : Act) (listed : Array Bool) (a : Act) (w : World) : Prop where
  still : Still ops a0 a
  done : ∀ j d, listed.getD j true = true → (ops[j]?).bind (·.dst) = some d → T j (a.tmps.getD d undef) w
  world : W w

/-- the edges lead to what stands ahead, no two operations write one slot, and all slots are there -/
def wellOrdered (ops : Array Oper) (n : Nat) : Bool :=
  (List.range ops.size).all fun j => match ops[j]? with
    | none => true
    | some o => (o.after.all fun e => decide (e.on < j)) && (match o.dst with
      | none => true
      | some d => decide (d < n) && (List.range ops.size).all fun i => i == j || (ops[i]?).bind (·.dst) != some d)

theorem getD_set (L : Array Bool) (i j : Nat) : (L.setIfInBounds i true).getD j true = if i = j then true else L.getD j true := by
  simp only [Array.getD_eq_getD_getElem?, Array.getElem?_setIfInBounds]
  split
  · subst_vars
    split <;> simp
  · rfl
def missing (ops : Array Oper) (listed : Array Bool) : Nat := (List.range ops.size).countP fun i => !listed.getD i true
theorem missing_set {listed : Array Bool} {i : Nat} (hi : i < ops.size) (h : listed.getD i true = false) : missing ops (listed.setIfInBounds i true) + 1 ≤ missing ops listed := by
  unfold missing
  have key : ∀ n, i < n → (List.range n).countP (fun k => !(listed.setIfInBounds i true).getD k true) + 1 ≤ (List.range n).countP (fun k => !listed.getD k true) := by
    have le : ∀ n, (List.range n).countP (fun k => !(listed.setIfInBounds i true).getD k true) ≤ (List.range n).countP (fun k => !listed.getD k true) := fun n =>
      List.countP_mono_left fun k _ hk => by
        rw [getD_set] at hk
        split at hk
        · simp at hk
        · exact hk
    intro n
    induction n with
    | zero => intro h; omega
    | succ n ih =>
      intro hn
      rw [List.range_succ, List.countP_append, List.countP_append]
      by_cases e : i = n
      · subst e
        have := le i
        have e1 : List.countP (fun k => !(listed.setIfInBounds i true).getD k true) [i] = 0 := by simp
        have e2 : List.countP (fun k => !listed.getD k true) [i] = 1 := by rw [List.countP_singleton, h]; rfl
        omega
      · have := ih (by omega)
        have e1 : List.countP (fun k => !(listed.setIfInBounds i true).getD k true) [n] = List.countP (fun k => !listed.getD k true) [n] := by
          rw [List.countP_singleton, List.countP_singleton, getD_set, if_neg e]
        omega
  exact key ops.size hi
theorem ready_of_missing {listed : Array Bool} (hw : wellOrdered ops a0.tmps.size = true) : ∀ n, n ≤ ops.size → Region.ready .any ops listed = [] → ∀ j, j < n → listed.getD j true = true := by
  intro n
  induction n with
  | zero => intro _ _ j hj; omega
  | succ n ih =>
    intro hn hr j hj
    have ih := ih (by omega) hr
    by_cases e : j = n
    · subst e
      by_cases hl : listed.getD j true = true
      · exact hl
      · exfalso
        have : j ∈ Region.ready .any ops listed := by
          unfold Region.ready
          refine List.mem_filter.2 ⟨List.mem_range.2 (by omega), ?_⟩
          have ho := Array.getElem?_eq_getElem (xs := ops) (i := j) (by omega)
          have hl' : listed.getD j true = false := by simpa using hl
          rw [hl', ho]
          simp only [Bool.not_false, Bool.true_and, Option.map_some, Option.getD_some]
          rw [Array.all_eq_true_iff_forall_mem]
          intro ed hed
          have hwj := List.all_eq_true.1 hw j (List.mem_range.2 (by omega))
          rw [ho] at hwj
          simp only [Bool.and_eq_true] at hwj
          have hlt := of_decide_eq_true (Array.all_eq_true_iff_forall_mem.1 hwj.1 ed hed)
          have h1 := ih ed.on hlt
          have : listed.getD ed.on false = true := by
            rcases Nat.lt_or_ge ed.on listed.size with h2 | h2
            · simp only [Array.getD_eq_getD_getElem?, Array.getElem?_eq_getElem h2, Option.getD_some] at h1 ⊢
              exact h1
            · have h3 : listed.getD j true = true := by simp [Array.getD_eq_getD_getElem?, Array.getElem?_eq_none (show listed.size ≤ j by omega)]
              rw [h3] at hl'
              cases hl'
          rw [this]
          simp
        rw [hr] at this
        cases this
    · exact ih j (by omega)

theorem typed_sound (hw : wellOrdered ops a0.tmps.size = true)
    (hT : ∀ j v w w', T j v w → R w w' → T j v w')
    (step : ∀ j o, ops[j]? = some o → ∀ a w, Still ops a0 a → Ahead ops T o a w → W w → wpOp P ops Q j (Leaves R T W j o a w) a w)
    (fin : ∀ a w, Still ops a0 a → (∀ j d, (ops[j]?).bind (·.dst) = some d → T j (a.tmps.getD d undef) w) → W w → Q .normal a w) :
    ∀ (fuel : Nat) (listed : Array Bool) (a : Act) (w : World), missing ops listed ≤ fuel → listed.size = ops.size → Mid ops T W a0 listed a w → wpAny P .any ops Q fuel listed a w := by
  have finish : ∀ (listed : Array Bool) (a : Act) (w : World), listed.size = ops.size → Mid ops T W a0 listed a w → Region.ready .any ops listed = [] → Q .normal a w := fun listed a w hsz hm hr => by
    have hall := ready_of_missing hw ops.size (Nat.le_refl _) hr
    refine fin a w hm.still (fun j d hd => hm.done j d ?_ hd) hm.world
    rcases Nat.lt_or_ge j ops.size with h | h
    · exact hall j h
    · rw [Array.getElem?_eq_none h] at hd
      cases hd
  intro fuel
  induction fuel with
  | zero =>
    intro listed a w hmis hsz hm
    have hr : Region.ready .any ops listed = [] := by
      rw [Region.ready, List.filter_eq_nil_iff]
      intro i hi
      have h0 : missing ops listed = 0 := by omega
      unfold missing at h0
      rw [List.countP_eq_zero] at h0
      have := h0 i hi
      simp only [Bool.not_eq_true, Bool.not_eq_false'] at this
      rw [this]
      simp
    exact ⟨hr, finish listed a w hsz hm hr⟩
  | succ fuel ih =>
    intro listed a w hmis hsz hm
    refine ⟨finish listed a w hsz hm, fun i hi => ?_⟩
    unfold Region.ready at hi
    obtain ⟨hr1, hr2⟩ := List.mem_filter.1 hi
    have hin : i < ops.size := List.mem_range.1 hr1
    have ho := Array.getElem?_eq_getElem (xs := ops) (i := i) hin
    rw [ho] at hr2
    simp only [Option.map_some, Option.getD_some, Bool.and_eq_true, Bool.not_eq_true'] at hr2
    have hun : listed.getD i true = false := by simpa using hr2.1
    have hahead : Ahead ops T ops[i] a w := fun e he hb d hd => by
      have h1 := Array.all_eq_true_iff_forall_mem.1 hr2.2 e he
      rw [hb] at h1
      simp only [Bool.not_true, Bool.false_or] at h1
      refine hm.done e.on d ?_ hd
      rcases Nat.lt_or_ge e.on listed.size with h2 | h2
      · simp only [Array.getD_eq_getD_getElem?, Array.getElem?_eq_getElem h2, Option.getD_some] at h1 ⊢
        exact h1
      · simp [Array.getD_eq_getD_getElem?, Array.getElem?_eq_none h2]
    refine wpOp_mono (fun a' w' h => ?_) (step i ops[i] ho a w hm.still hahead hm.world)
    obtain ⟨v, rfl, hv, hW', hb⟩ := h
    have hwi := List.all_eq_true.1 hw i (List.mem_range.2 hin)
    rw [ho] at hwi
    simp only [Bool.and_eq_true] at hwi
    refine ih (listed.setIfInBounds i true) _ w' (by have := missing_set (ops := ops) hin hun; omega) (by simpa using hsz) ⟨⟨?_, ?_, ?_⟩, ?_, hW'⟩
    · rw [← hm.still.size]
      cases ops[i].dst <;> simp [Act.put]
    · rw [← hm.still.defers]
      cases ops[i].dst <;> rfl
    · intro d hd
      rw [← hm.still.slot d hd]
      have hne := Array.all_eq_true_iff_forall_mem.1 hd ops[i] (Array.getElem_mem hin)
      cases hx : ops[i].dst with
      | none => rfl
      | some x =>
        rw [hx] at hne
        have : x ≠ d := by simpa using hne
        simp [Act.put, Array.getD_eq_getD_getElem?, Array.getElem?_setIfInBounds_ne this]
    · intro j d hl hd
      rw [getD_set] at hl
      by_cases e : i = j
      · subst e
        rw [ho] at hd
        have hd : ops[i].dst = some d := hd
        have hlt : d < a.tmps.size := by
          rw [hd] at hwi
          simp only [Bool.and_eq_true] at hwi
          have := of_decide_eq_true hwi.2.1
          rw [hm.still.size]
          exact this
        have e2 : (a.put ops[i].dst v).tmps.getD d undef = v := by
          rw [hd]
          simp [Act.put, Array.getD_eq_getD_getElem?, hlt]
        rw [e2]
        exact hv (by rw [hd]; simp)
      · rw [if_neg e] at hl
        have h1 := hT j _ w w' (hm.done j d hl hd) hb
        have e2 : (a.put ops[i].dst v).tmps.getD d undef = a.tmps.getD d undef := by
          cases hx : ops[i].dst with
          | none => rfl
          | some x =>
            rw [hx] at hwi
            simp only [Bool.and_eq_true] at hwi
            have hj : j < ops.size := by
              rcases Nat.lt_or_ge j ops.size with h | h
              · exact h
              · rw [Array.getElem?_eq_none h] at hd
                cases hd
            have h2 := List.all_eq_true.1 hwi.2.2 j (List.mem_range.2 hj)
            rw [hd] at h2
            have : x ≠ d := by
              rintro rfl
              simp at h2
              exact e h2.symm
            simp [Act.put, Array.getD_eq_getD_getElem?, Array.getElem?_setIfInBounds_ne this]
        rw [e2]
        exact h1

/-- THE LAW -/
theorem wp_region_typed {id : Nat} {w : World} (T : Nat → Value → World → Prop) (W : World → Prop) (hm : P.follows .mixedOrders = true) (hw : wellOrdered ops a0.tmps.size = true)
    (hT : ∀ j v w w', T j v w → R w w' → T j v w') (h0 : W w.drew)
    (step : ∀ j o, ops[j]? = some o → ∀ a w, Still ops a0 a → Ahead ops T o a w → W w → wpOp P ops Q j (Leaves R T W j o a w) a w)
    (fin : ∀ a w, Still ops a0 a → (∀ j d, (ops[j]?).bind (·.dst) = some d → T j (a.tmps.getD d undef) w) → W w → Q .normal a w) :
    (Code.region id ops true).wp P Q a0 w := by
  refine wp_region_any hm (typed_sound hw hT step fin ops.size _ a0 w.drew ?_ (by simp) ⟨⟨rfl, rfl, fun _ _ => rfl⟩, fun j d hl hd => ?_, h0⟩)
  · unfold missing
    exact Nat.le_trans List.countP_le_length (by simp)
  · exfalso
    rcases Nat.lt_or_ge j ops.size with h | h
    · simp [Array.getD_eq_getD_getElem?, h] at hl
    · rw [Array.getElem?_eq_none h] at hd
      cases hd

/-! ### the same, with each operation met by itself: its operands by what is known of them -/
def evalR (ρ : Tmp → Value) : Operand → Value
  | .tmp t => ρ t
  | .const v => v
  | .global g => .pointer (some ⟨g, 0, none⟩)
  | .func f => .func (.func f) #[] #[]
theorem evalR_tmp (ρ : Tmp → Value) (t : Tmp) : evalR ρ (.tmp t) = ρ t := rfl
theorem evalR_const (ρ : Tmp → Value) (v : Value) : evalR ρ (.const v) = v := rfl
theorem evalR_global (ρ : Tmp → Value) (g : Nat) : evalR ρ (.global g) = .pointer (some ⟨g, 0, none⟩) := rfl
theorem evalR_func (ρ : Tmp → Value) (f : FuncId) : evalR ρ (.func f) = .func (.func f) #[] #[] := rfl
/-- the operation runs, and what comes of it meets Kv -/
def Does (P : Program) (o : Oper) (ρ : Tmp → Value) (w : World) (Kv : Value → World → Prop) : Prop :=
  match (execOp (evalR ρ) o).run P w with
  | .ok (.value v) w' => Kv v w'
  | .ok .skip w' => Kv undef w'
  | .ok (.enter f args) w' => Calls P f args w' fun e w'' => ∃ v, e = .returned v ∧ Kv v w''
  | _ => False
/-- which operation of the region writes a slot -/
def srcOf (ops : Array Oper) (t : Tmp) : Option Nat := (List.range ops.size).find? fun i => (ops[i]?).bind (·.dst) == some t
/-- what is known of a slot that an operation reads -/
def Fact (ops : Array Oper) (a0 : Act) (T : Nat → Value → World → Prop) (t : Tmp) (v : Value) (w : World) : Prop :=
  match srcOf ops t with
  | none => v = a0.tmps.getD t undef
  | some i => T i v w
def reads (o : Oper) : List Tmp := o.op.operands.toList.filterMap fun | .tmp t => some t | _ => none
def waits (o : Oper) (i : Nat) : Bool := o.after.any fun e => e.on == i && Region.binds .any e
/-- every slot that is read, and every guard, is of an operation that is waited for -/
def covered (ops : Array Oper) : Bool := ops.all fun o =>
  ((reads o).all fun t => match srcOf ops t with
    | none => true
    | some i => waits o i) && (match o.guard with
    | none => true
    | some (g, _) => waits o g && ((ops[g]?).bind (·.dst)).isSome)
/-- one operation, of whatever world and operands -/
def StepOk (R : World → World → Prop) (P : Program) (ops : Array Oper) (a0 : Act) (T : Nat → Value → World → Prop) (W : World → Prop) (j : Nat) (o : Oper) : Prop :=
  ∀ ρ w, (∀ t ∈ reads o, Fact ops a0 T t (ρ t) w) → W w → Does P o ρ w fun v w' => T j v w' ∧ W w' ∧ R w w'
def Steps (p : Nat → Oper → Prop) : Nat → List Oper → Prop
  | _, [] => True
  | j, o :: r => p j o ∧ Steps p (j + 1) r
theorem Steps.at {p : Nat → Oper → Prop} : ∀ {l : List Oper} {k : Nat}, Steps p k l → ∀ j o, l[j]? = some o → p (k + j) o
  | [], _, _, j, o, h => by simp at h
  | x :: r, k, hs, 0, o, h => by
    simp at h
    subst h
    exact hs.1
  | x :: r, k, hs, j + 1, o, h => by
    have := hs.2.at j o (by simpa using h)
    rwa [Nat.add_assoc, Nat.add_comm 1 j] at this

theorem does_wpOp {j : Nat} {o : Oper} {ρ : Tmp → Value} {a : Act} {w : World} (hi : ops[j]? = some o) (hsel : ∀ cs b, o.op ≠ .select cs b) (hr : ∀ t ∈ reads o, a.tmps.getD t undef = ρ t)
    (hg : Region.wanted o (yielded ops a.tmps) = true) (h : Does P o ρ w fun v w' => T j v w' ∧ W w' ∧ R w w') : wpOp P ops Q j (Leaves R T W j o a w) a w := by
  have he : execOp a.eval o = execOp (evalR ρ) o := execOp_congr o hsel fun x hx => by
    cases x with
    | tmp t => exact hr t (List.mem_filterMap.2 ⟨.tmp t, by simpa using hx, rfl⟩)
    | _ => rfl
  unfold wpOp
  simp only [hi, hg, if_true]
  refine .inl ?_
  unfold Oper.wp Does at *
  rw [he]
  generalize (execOp (evalR ρ) o).run P w = r at *
  cases r with
  | ok n w' =>
    cases n <;> simp only [Oper.upon] at h ⊢
    case value v => exact ⟨v, rfl, fun _ => h.1, h.2.1, h.2.2⟩
    case skip => exact ⟨undef, rfl, fun _ => h.1, h.2.1, h.2.2⟩
    case enter f args =>
      refine Calls.mono h fun e w'' he => ?_
      obtain ⟨v, rfl, h1, h2, h3⟩ := he
      exact ⟨v, rfl, fun _ => h1, h2, h3⟩
  | halt x w' => exact h.elim

/-- THE LAW, operation by operation -/
theorem wp_region_steps {id : Nat} {w : World} (T : Nat → Value → World → Prop) (W : World → Prop) (hm : P.follows .mixedOrders = true) (hw : wellOrdered ops a0.tmps.size = true) (hcov : covered ops = true) (hs : Region.noSelect ops = true)
    (hT : ∀ j v w w', T j v w → R w w' → T j v w') (h0 : W w.drew)
    (gs : List Nat) (hguard : ops.all (fun o => match o.guard with
      | none => true
      | some (g, b) => b && gs.contains g) = true)
    (htrue : ∀ g ∈ gs, ∀ v w, T g v w → v = .bool true)
    (steps : Steps (StepOk R P ops a0 T W) 0 ops.toList)
    (fin : ∀ a w, Still ops a0 a → (∀ j d, (ops[j]?).bind (·.dst) = some d → T j (a.tmps.getD d undef) w) → W w → Q .normal a w) :
    (Code.region id ops true).wp P Q a0 w := by
  refine wp_region_typed T W hm hw hT h0 (fun j o ho a w1 hst ha hW => ?_) fin
  have hc := Array.all_eq_true_iff_forall_mem.1 hcov o (Array.mem_of_getElem? ho)
  simp only [Bool.and_eq_true] at hc
  have wait : ∀ i d, waits o i = true → (ops[i]?).bind (·.dst) = some d → T i (a.tmps.getD d undef) w1 := fun i d hwt hd => by
    unfold waits at hwt
    obtain ⟨e, he, h1⟩ := Array.any_eq_true'.1 hwt
    simp only [Bool.and_eq_true, beq_iff_eq] at h1
    obtain ⟨rfl, h2⟩ := h1
    exact ha e he h2 d hd
  have hst1 := steps.at j o (by simpa using ho)
  rw [Nat.zero_add] at hst1
  refine does_wpOp ho (fun cs b => Region.noSelect_spec hs j o cs b ho) (ρ := fun t => a.tmps.getD t undef) (fun t _ => rfl) ?_ (hst1 _ w1 (fun t ht => ?_) hW)
  · unfold Region.wanted
    cases hgd : o.guard with
    | none => rfl
    | some gb =>
      obtain ⟨g, b⟩ := gb
      have hb := Array.all_eq_true_iff_forall_mem.1 hguard o (Array.mem_of_getElem? ho)
      rw [hgd] at hb
      have hb : (b && gs.contains g) = true := hb
      simp only [Bool.and_eq_true] at hb
      obtain ⟨rfl, hgs⟩ := hb
      have hc2 := hc.2
      rw [hgd] at hc2
      simp only [Bool.and_eq_true] at hc2
      obtain ⟨d, hd⟩ := Option.isSome_iff_exists.1 hc2.2
      have hv := htrue g (by simpa using hgs) _ _ (wait g d hc2.1 hd)
      have : yielded ops a.tmps g = some true := by
        unfold yielded
        rw [hd]
        simp only [Option.bind_some]
        rcases Nat.lt_or_ge d a.tmps.size with h | h
        · simp only [Array.getD_eq_getD_getElem?, Array.getElem?_eq_getElem h, Option.getD_some] at hv
          rw [Array.getElem?_eq_getElem h, hv]
        · simp only [Array.getD_eq_getD_getElem?, Array.getElem?_eq_none h, Option.getD_none] at hv
          cases hv
      show (yielded ops a.tmps g == some true) = true
      rw [this]
      rfl
  · have h1 := List.all_eq_true.1 hc.1 t ht
    unfold Fact
    cases hsrc : srcOf ops t with
    | none =>
      refine hst.slot t ?_
      rw [Array.all_eq_true_iff_forall_mem]
      intro o' ho'
      obtain ⟨i, hi, rfl⟩ := Array.mem_iff_getElem.1 ho'
      unfold srcOf at hsrc
      have := List.find?_eq_none.1 hsrc i (List.mem_range.2 hi)
      rw [Array.getElem?_eq_getElem hi] at this
      simpa using this
    | some i =>
      rw [hsrc] at h1
      refine wait i t h1 ?_
      unfold srcOf at hsrc
      simpa using List.find?_some hsrc

/-! ### what a slot holds, as a list over the region's operations -/
end
section
variable {R : World → World → Prop} {P : Program} {ops : Array Oper} {Q : Exit → Act → World → Prop} {T : Nat → Value → World → Prop} {W : World → Prop} {a0 : Act}
/-- one operation, guarded or not: what its guard holds is known; where it is passed over, its slot may hold nothing -/
def StepG (R : World → World → Prop) (P : Program) (ops : Array Oper) (a0 : Act) (T : Nat → Value → World → Prop) (W : World → Prop) (j : Nat) (o : Oper) : Prop :=
  match o.guard with
  | none => StepOk R P ops a0 T W j o
  | some (g, b) => ∃ x : Bool, (∀ v w, T g v w → v = .bool x) ∧ (x = b → StepOk R P ops a0 T W j o) ∧ (x ≠ b → ∀ w, T j undef w)
theorem stepG_op (hRr : ∀ w, R w w) {j : Nat} {o : Oper} {a : Act} {w1 : World} (hcov : covered ops = true) (hs : Region.noSelect ops = true) (ho : ops[j]? = some o) (hst : Still ops a0 a) (ha : Ahead ops T o a w1) (hW : W w1) (hst1 : StepG R P ops a0 T W j o) : wpOp P ops Q j (Leaves R T W j o a w1) a w1 := by
  have hc := Array.all_eq_true_iff_forall_mem.1 hcov o (Array.mem_of_getElem? ho)
  simp only [Bool.and_eq_true] at hc
  have wait : ∀ i d, waits o i = true → (ops[i]?).bind (·.dst) = some d → T i (a.tmps.getD d undef) w1 := fun i d hwt hd => by
    unfold waits at hwt
    obtain ⟨e, he, h1⟩ := Array.any_eq_true'.1 hwt
    simp only [Bool.and_eq_true, beq_iff_eq] at h1
    obtain ⟨rfl, h2⟩ := h1
    exact ha e he h2 d hd
  have facts : ∀ t ∈ reads o, Fact ops a0 T t (a.tmps.getD t undef) w1 := fun t ht => by
    have h1 := List.all_eq_true.1 hc.1 t ht
    unfold Fact
    cases hsrc : srcOf ops t with
    | none =>
      refine hst.slot t ?_
      rw [Array.all_eq_true_iff_forall_mem]
      intro o' ho'
      obtain ⟨i, hi, rfl⟩ := Array.mem_iff_getElem.1 ho'
      unfold srcOf at hsrc
      have := List.find?_eq_none.1 hsrc i (List.mem_range.2 hi)
      rw [Array.getElem?_eq_getElem hi] at this
      simpa using this
    | some i =>
      rw [hsrc] at h1
      refine wait i t h1 ?_
      unfold srcOf at hsrc
      simpa using List.find?_some hsrc
  have run : Region.wanted o (yielded ops a.tmps) = true → StepOk R P ops a0 T W j o → wpOp P ops Q j (Leaves R T W j o a w1) a w1 := fun hg hst2 =>
    does_wpOp ho (fun cs b => Region.noSelect_spec hs j o cs b ho) (ρ := fun t => a.tmps.getD t undef) (fun t _ => rfl) hg (hst2 _ w1 facts hW)
  cases hgd : o.guard with
  | none =>
    unfold StepG at hst1
    rw [hgd] at hst1
    exact run (by unfold Region.wanted; rw [hgd]) hst1
  | some gb =>
    obtain ⟨g, b⟩ := gb
    unfold StepG at hst1
    rw [hgd] at hst1
    obtain ⟨x, hx, h1, h2⟩ := hst1
    have hc2 := hc.2
    rw [hgd] at hc2
    simp only [Bool.and_eq_true] at hc2
    obtain ⟨d, hd⟩ := Option.isSome_iff_exists.1 hc2.2
    have hv := hx _ _ (wait g d hc2.1 hd)
    have hy : yielded ops a.tmps g = some x := by
      unfold yielded
      rw [hd]
      simp only [Option.bind_some]
      rcases Nat.lt_or_ge d a.tmps.size with h | h
      · simp only [Array.getD_eq_getD_getElem?, Array.getElem?_eq_getElem h, Option.getD_some] at hv
        rw [Array.getElem?_eq_getElem h, hv]
      · simp only [Array.getD_eq_getD_getElem?, Array.getElem?_eq_none h, Option.getD_none] at hv
        cases hv
    by_cases hxb : x = b
    · refine run ?_ (h1 hxb)
      unfold Region.wanted
      rw [hgd]
      show (yielded ops a.tmps g == some b) = true
      rw [hy, hxb]
      simp
    · unfold wpOp
      have hnw : Region.wanted o (yielded ops a.tmps) = false := by
        unfold Region.wanted
        rw [hgd]
        show (yielded ops a.tmps g == some b) = false
        rw [hy]
        simpa using hxb
      simp only [ho, hnw, Bool.false_eq_true, if_false]
      exact ⟨undef, rfl, fun _ => h2 hxb w1, hW, hRr _⟩
theorem wp_region_stepsG {id : Nat} {w : World} (T : Nat → Value → World → Prop) (W : World → Prop) (hRr : ∀ w, R w w) (hm : P.follows .mixedOrders = true) (hw : wellOrdered ops a0.tmps.size = true) (hcov : covered ops = true) (hs : Region.noSelect ops = true)
    (hT : ∀ j v w w', T j v w → R w w' → T j v w') (h0 : W w.drew)
    (steps : Steps (StepG R P ops a0 T W) 0 ops.toList)
    (fin : ∀ a w, Still ops a0 a → (∀ j d, (ops[j]?).bind (·.dst) = some d → T j (a.tmps.getD d undef) w) → W w → Q .normal a w) :
    (Code.region id ops true).wp P Q a0 w := by
  refine wp_region_typed T W hm hw hT h0 (fun j o ho a w1 hst ha hW => ?_) fin
  have hst1 := steps.at j o (by simpa using ho)
  rw [Nat.zero_add] at hst1
  exact stepG_op hRr hcov hs ho hst ha hW hst1
end
section
variable {R : World → World → Prop} {P : Program} {ops : Array Oper} {Q : Exit → Act → World → Prop} {T : Nat → Value → World → Prop} {W : World → Prop} {a0 : Act}
/-- the last operation waits for each other one -/
def lastWaits (ops : Array Oper) : Bool := match ops.back? with
  | none => false
  | some o => (List.range (ops.size - 1)).all fun j => o.after.any fun e => e.on == j && Region.binds .any e
theorem lastWaits_spec {m : Nat} (hm : ops.size = m + 1) (h : lastWaits ops = true) {o : Oper} (ho : ops[m]? = some o) : ∀ j, j < m → ∃ e ∈ o.after, e.on = j ∧ Region.binds .any e = true := by
  intro j hj
  unfold lastWaits at h
  have hb : ops.back? = some o := by
    rw [Array.back?_eq_getElem?, hm]
    exact ho
  rw [hb] at h
  have h1 := List.all_eq_true.1 h j (List.mem_range.2 (by omega))
  obtain ⟨e, he, h2⟩ := Array.any_eq_true'.1 h1
  simp only [Bool.and_eq_true, beq_iff_eq] at h2
  exact ⟨e, he, h2⟩
theorem ready_all {listed : Array Bool} (h : ∀ j, j < ops.size → listed.getD j true = true) : Region.ready .any ops listed = [] := by
  rw [Region.ready, List.filter_eq_nil_iff]
  intro i hi
  rw [h i (List.mem_range.1 hi)]
  simp
theorem typed_last {m : Nat} (hm : ops.size = m + 1) (hw : wellOrdered ops a0.tmps.size = true) (hl : lastWaits ops = true)
    (hT : ∀ j v w w', T j v w → R w w' → T j v w')
    (step : ∀ j o, j < m → ops[j]? = some o → ∀ a w, Still ops a0 a → Ahead ops T o a w → W w → wpOp P ops Q j (Leaves R T W j o a w) a w)
    (last : ∀ a w, Still ops a0 a → (∀ j d, j < m → (ops[j]?).bind (·.dst) = some d → T j (a.tmps.getD d undef) w) → W w → wpOp P ops Q m (fun a' w' => Q .normal a' w') a w) :
    ∀ (fuel : Nat) (listed : Array Bool) (a : Act) (w : World), missing ops listed ≤ fuel → listed.size = ops.size → listed.getD m true = false → Mid ops T W a0 listed a w → wpAny P .any ops Q fuel listed a w := by
  intro fuel
  induction fuel with
  | zero =>
    intro listed a w hmis hsz hnl hmid
    exfalso
    have h0 : missing ops listed = 0 := by omega
    unfold missing at h0
    rw [List.countP_eq_zero] at h0
    have := h0 m (List.mem_range.2 (by omega))
    rw [hnl] at this
    simp at this
  | succ fuel ih =>
    intro listed a w hmis hsz hnl hmid
    refine ⟨fun hr => ?_, fun i hi => ?_⟩
    · exfalso
      have := ready_of_missing (ops := ops) (a0 := a0) hw ops.size (Nat.le_refl _) hr m (by omega)
      rw [hnl] at this
      cases this
    · unfold Region.ready at hi
      obtain ⟨hr1, hr2⟩ := List.mem_filter.1 hi
      have hin : i < ops.size := List.mem_range.1 hr1
      have ho := Array.getElem?_eq_getElem (xs := ops) (i := i) hin
      rw [ho] at hr2
      simp only [Option.map_some, Option.getD_some, Bool.and_eq_true, Bool.not_eq_true'] at hr2
      have hun : listed.getD i true = false := by simpa using hr2.1
      by_cases him : i = m
      · subst him
        have hall : ∀ j, j < i → listed.getD j true = true := fun j hj => by
          obtain ⟨e, he, rfl, hb⟩ := lastWaits_spec hm hl ho j hj
          have h1 := Array.all_eq_true_iff_forall_mem.1 hr2.2 e he
          rw [hb] at h1
          simp only [Bool.not_true, Bool.false_or] at h1
          have h2 : e.on < listed.size := by omega
          simp only [Array.getD_eq_getD_getElem?, Array.getElem?_eq_getElem h2, Option.getD_some] at h1 ⊢
          exact h1
        refine wpOp_mono (fun a' w' h => ?_) (last a w hmid.still (fun j d hj hd => hmid.done j d (hall j hj) hd) hmid.world)
        have hre : Region.ready .any ops (listed.setIfInBounds i true) = [] := ready_all fun j hj => by
          rw [getD_set]
          split
          · rfl
          · exact hall j (by omega)
        cases fuel with
        | zero => exact ⟨hre, h⟩
        | succ f => exact ⟨fun _ => h, fun k hk => by rw [hre] at hk; cases hk⟩
      · have hahead : Ahead ops T ops[i] a w := fun e he hb d hd => by
          have h1 := Array.all_eq_true_iff_forall_mem.1 hr2.2 e he
          rw [hb] at h1
          simp only [Bool.not_true, Bool.false_or] at h1
          refine hmid.done e.on d ?_ hd
          rcases Nat.lt_or_ge e.on listed.size with h2 | h2
          · simp only [Array.getD_eq_getD_getElem?, Array.getElem?_eq_getElem h2, Option.getD_some] at h1 ⊢
            exact h1
          · simp only [Array.getD_eq_getD_getElem?, Array.getElem?_eq_none h2, Option.getD_none] at h1
            cases h1
        refine wpOp_mono (fun a' w' h => ?_) (step i ops[i] (by omega) ho a w hmid.still hahead hmid.world)
        obtain ⟨v, rfl, hv, hW', hb⟩ := h
        have hwi := List.all_eq_true.1 hw i (List.mem_range.2 hin)
        rw [ho] at hwi
        simp only [Bool.and_eq_true] at hwi
        refine ih (listed.setIfInBounds i true) _ w' (by have := missing_set (ops := ops) hin hun; omega) (by simpa using hsz) (by rw [getD_set, if_neg him]; exact hnl) ⟨⟨?_, ?_, ?_⟩, ?_, hW'⟩
        · rw [← hmid.still.size]
          cases ops[i].dst <;> simp [Act.put]
        · rw [← hmid.still.defers]
          cases ops[i].dst <;> rfl
        · intro d hd
          rw [← hmid.still.slot d hd]
          have hne := Array.all_eq_true_iff_forall_mem.1 hd ops[i] (Array.getElem_mem hin)
          cases hx : ops[i].dst with
          | none => rfl
          | some x =>
            rw [hx] at hne
            have : x ≠ d := by simpa using hne
            simp [Act.put, Array.getD_eq_getD_getElem?, Array.getElem?_setIfInBounds_ne this]
        · intro j d hl' hd
          rw [getD_set] at hl'
          by_cases e : i = j
          · subst e
            rw [ho] at hd
            have hd : ops[i].dst = some d := hd
            have hlt : d < a.tmps.size := by
              rw [hd] at hwi
              simp only [Bool.and_eq_true] at hwi
              have := of_decide_eq_true hwi.2.1
              rw [hmid.still.size]
              exact this
            have e2 : (a.put ops[i].dst v).tmps.getD d undef = v := by
              rw [hd]
              simp [Act.put, Array.getD_eq_getD_getElem?, hlt]
            rw [e2]
            exact hv (by rw [hd]; simp)
          · rw [if_neg e] at hl'
            have h1 := hT j _ w w' (hmid.done j d hl' hd) hb
            have e2 : (a.put ops[i].dst v).tmps.getD d undef = a.tmps.getD d undef := by
              cases hx : ops[i].dst with
              | none => rfl
              | some x =>
                rw [hx] at hwi
                simp only [Bool.and_eq_true] at hwi
                have hj : j < ops.size := by
                  rcases Nat.lt_or_ge j ops.size with h | h
                  · exact h
                  · rw [Array.getElem?_eq_none h] at hd
                    cases hd
                have h2 := List.all_eq_true.1 hwi.2.2 j (List.mem_range.2 hj)
                rw [hd] at h2
                have : x ≠ d := by
                  rintro rfl
                  simp at h2
                  exact e h2.symm
                simp [Act.put, Array.getD_eq_getD_getElem?, Array.getElem?_setIfInBounds_ne this]
            rw [e2]
            exact h1

/-- THE LAW: all but the last one by themselves, then the last one -/
theorem wp_region_stepsL {id : Nat} {w : World} (m : Nat) (T : Nat → Value → World → Prop) (W : World → Prop) (hRr : ∀ w, R w w) (hm : P.follows .mixedOrders = true) (hsz : ops.size = m + 1) (hw : wellOrdered ops a0.tmps.size = true) (hl : lastWaits ops = true) (hcov : covered ops = true) (hs : Region.noSelect ops = true)
    (hT : ∀ j v w w', T j v w → R w w' → T j v w') (h0 : W w.drew)
    (steps : Steps (StepG R P ops a0 T W) 0 (ops.toList.take m))
    (last : ∀ a w, Still ops a0 a → (∀ j d, j < m → (ops[j]?).bind (·.dst) = some d → T j (a.tmps.getD d undef) w) → W w → wpOp P ops Q m (fun a' w' => Q .normal a' w') a w) :
    (Code.region id ops true).wp P Q a0 w := by
  refine wp_region_any hm (typed_last hsz hw hl hT (fun j o hj ho a w1 hst ha hW => ?_) last ops.size _ a0 w.drew ?_ (by simp) (by simp [Array.getD_eq_getD_getElem?, hsz]) ⟨⟨rfl, rfl, fun _ _ => rfl⟩, fun j d hl hd => ?_, h0⟩)
  · have hst1 := steps.at j o (by rw [List.getElem?_take, if_pos hj]; simpa using ho)
    rw [Nat.zero_add] at hst1
    exact stepG_op hRr hcov hs ho hst ha hW hst1
  · unfold missing
    exact Nat.le_trans List.countP_le_length (by simp)
  · exfalso
    rcases Nat.lt_or_ge j ops.size with h | h
    · simp [Array.getD_eq_getD_getElem?, h] at hl
    · rw [Array.getElem?_eq_none h] at hd
      cases hd
end
end Go.Proofs.Ytgaadndhecokfaa.Rl

/- The stack of parts, as read keeps it: a boxed slice, nine cells each. -/
namespace Go.Proofs.Ytgaadndhecokfaa
open Go.RowKit Go.Lib Go.Joins
/-- block B holds the row g, of n elements -/
def StkA (w : World) (SE E : TypeId) (k B base g cap n : Nat) (xs : List Value) : Prop := Boxed w B SE (.slice (some ⟨g, 0, none⟩) n cap) ∧ w.ownsRow base E k (.slice (some ⟨g, 0, none⟩) n cap) n xs
section
variable {w w' : World} {SE E : TypeId} {k B base g cap n : Nat} {xs : List Value}
theorem StkA.lt (h : StkA w SE E k B base g cap n xs) : B < w.heap.size := h.1.lt
theorem StkA.row (h : StkA w SE E k B base g cap n xs) : base ≤ g ∧ g < w.heap.size ∧ n ≤ cap ∧ cap ≤ maxLen := by
  rcases h.2.2 with ⟨h, _⟩ | ⟨g', cap', cur, h, hb, hg, hn, hm, _⟩
  · cases h
  · simp only [Value.slice.injEq, Option.some.injEq, Addr.mk.injEq, and_true, true_and] at h
    obtain ⟨rfl, rfl⟩ := h
    exact ⟨hb, (Array.getElem?_eq_some_iff.1 hg).1, hn, hm⟩
theorem StkA.ne (h : StkA w SE E k B base g cap n xs) (hSE : SE ≠ E) : g ≠ B := fun e => h.1.not_row hSE h.2 (by simp [Value.ownBlock, e])
theorem StkA.kept (h : StkA w SE E k B base g cap n xs) (h1 : w'.heap[B]? = w.heap[B]?) (h2 : w'.heap[g]? = w.heap[g]?) : StkA w' SE E k B base g cap n xs := by
  refine ⟨h1.trans h.1, h.2.1, ?_⟩
  rcases h.2.2 with h | ⟨g', cap', cur, h, hb, hg, r⟩
  · exact .inl h
  · simp only [Value.slice.injEq, Option.some.injEq, Addr.mk.injEq, and_true, true_and] at h
    obtain ⟨rfl, rfl⟩ := h
    exact .inr ⟨g, cap, cur, rfl, hb, h2.trans hg, r⟩
theorem StkA.below (h : StkA w SE E k B base g cap n xs) (hb : Below w.heap.size w w') : StkA w' SE E k B base g cap n xs := h.kept (hb.block B h.lt) (hb.block g h.row.2.1)
theorem StkA.alloc (h : StkA w SE E k B base g cap n xs) (o : Obj) : StkA (w.alloc o) SE E k B base g cap n xs := h.below ((Below.refl _ _).alloc (Nat.le_refl _) o)
theorem StkA.drew (h : StkA w SE E k B base g cap n xs) : StkA w.drew SE E k B base g cap n xs := h
theorem StkA.grown {b : Nat} (h : StkA w SE E k B base g cap n xs) (hg : w.grownBy w' (some b)) (h1 : B ≠ b) (h2 : g ≠ b) : StkA w' SE E k B base g cap n xs :=
  h.kept (hg.block B h.lt (by simpa using h1)) (hg.block g h.row.2.1 (by simpa using h2))
end
section
variable {w w' : World} {B base g cap : Nat} {X : List Prt}
end
end Go.Proofs.Ytgaadndhecokfaa
