/- FuNetE, FuApp, FuPut, FuHas, put together. -/
import Derived.Test.YtgaadndhecokfaaMu15
import Derived.Test.YtgaadndhecokfaaMu17
import Derived.Laws.AppendOwnNone
import Derived.RegionTactic
import Derived.Test.YtgaadndhecokfaaMu12
/- What is built behind the pointer reads as a net; the model of add and Fuse. -/
namespace Go.Proofs.Ytgaadndhecokfaa
open Go.RowKit Go.Lib Go.Joins
theorem flat_set4 : ∀ (S : List Stp) (i : Nat), i < S.length → ∀ j, j < 4 → (S.flatMap setC)[i * 4 + j]? = (setC (S.getD i default))[j]?
  | [], i, h, _, _ => by simp at h
  | x :: r, 0, h, j, hj => by
    rw [List.flatMap_cons, Nat.zero_mul, Nat.zero_add, List.getElem?_append_left (by simp [setC]; omega)]
    simp
  | x :: r, i + 1, h, j, hj => by
    have ih := flat_set4 r i (by simpa using h) j hj
    have e : (setC x).length = 4 := rfl
    rw [List.flatMap_cons, List.getElem?_append_right (by rw [e]; omega), e, show (i + 1) * 4 + j - 4 = i * 4 + j by omega, ih]
    simp
theorem RowS.reads {w : World} {base : Nat} {v : Value} {S : List Stp} (h : RowS w base v S) : RdS w.heap.size w v S := by
  have h' := h
  rcases h.2 with ⟨rfl, h0⟩ | ⟨g, cap, cur, rfl, hb, hg, h1, h2, h3, h4⟩
  · exact ⟨none, 0, by rw [h0], by omega, by decide, fun _ => rfl, fun hp => by omega⟩
  · refine ⟨some ⟨g, 0, none⟩, cap, rfl, h1, h2, (fun e => by cases e), fun _ => ⟨g, 0, rfl, (Array.getElem?_eq_some_iff.1 hg).1, fun i hi => ?_⟩⟩
    have hc : ∀ j, j < 4 → w.cell? ⟨g, i * 4 + j, none⟩ = (setC (S.getD i default))[j]? := fun j hj => by
      rw [World.ownsRow.cellAt h' (i * 4 + j) (by omega)]
      exact flat_set4 S i hi j hj
    rw [Nat.zero_add]
    exact ⟨hc 0 (by omega), hc 1 (by omega), hc 2 (by omega), hc 3 (by omega)⟩
theorem rowB_reads {w : World} {base : Nat} {v : Value} {l : List Bool} (h : w.ownsRow base 4 1 v l.length (l.map Value.bool)) : RdB w.heap.size w v l := by
  have h' := h
  rcases h.2 with ⟨rfl, h0⟩ | ⟨g, cap, cur, rfl, hb, hg, h1, h2, h3, h4⟩
  · exact ⟨none, 0, by rw [h0], by omega, by decide, fun _ => rfl, fun hp => by omega⟩
  · refine ⟨some ⟨g, 0, none⟩, cap, rfl, h1, h2, (fun e => by cases e), fun _ => ⟨g, 0, rfl, (Array.getElem?_eq_some_iff.1 hg).1, fun i hi => ?_⟩⟩
    rw [Nat.zero_add, World.ownsRow.cellAt h' i (by omega), List.getElem?_map, List.getD_eq_getElem?_getD, List.getElem?_eq_getElem hi]
    rfl
theorem rowF_reads {w : World} {base : Nat} {v : Value} {us : List Value} {L : List (List Int)} (h : w.ownsRow base 24 1 v L.length us) (hl : us.length = L.length) (he : ∀ i, i < L.length → RdZ w.heap.size w (us.getD i undef) (L.getD i [])) : RdZZ w.heap.size w v L := by
  have h' := h
  rcases h.2 with ⟨rfl, h0⟩ | ⟨g, cap, cur, rfl, hb, hg, h1, h2, h3, h4⟩
  · exact ⟨none, 0, by rw [h0], by omega, by decide, fun _ => rfl, fun hp => by omega⟩
  · refine ⟨some ⟨g, 0, none⟩, cap, rfl, h1, h2, (fun e => by cases e), fun _ => ⟨g, 0, rfl, (Array.getElem?_eq_some_iff.1 hg).1, fun i hi => ⟨_, ?_, he i hi⟩⟩⟩
    rw [Nat.zero_add, World.ownsRow.cellAt h' i (by omega), List.getD_eq_getElem?_getD, List.getElem?_eq_getElem (by omega)]
    rfl
theorem NetW.reads {w : World} {NB base : Nat} {vs vo vl vf v1 : Value} {us : List Value} {N : NetM} (h : NetW w NB base vs vo vl vf v1 us N) : RdNet w.heap.size w vs vo vl vf v1 N :=
  ⟨h.rowS.reads, h.rowO.reads, rowB_reads h.rowL, rowF_reads h.rowF h.len fun i hi => (h.el i hi).mono fun _ hk => ⟨hk.1, rfl⟩, h.row1.reads⟩
/-- a net with nothing in it, behind a pointer -/
theorem NetW.nil (w : World) (base : Nat) : NetW (w.alloc (.cells #[.slice none 0 0, .slice none 0 0, .slice none 0 0, .slice none 0 0, .slice none 0 0] 53)) w.heap.size base (.slice none 0 0) (.slice none 0 0) (.slice none 0 0) (.slice none 0 0) (.slice none 0 0) [] ⟨[], [], [], [], []⟩ := by
  refine ⟨⟨heap_alloc_new w _, ?_, ?_, ?_⟩, rfl, fun i hi => absurd hi (by simp)⟩
  · intro r hr
    simp only [rows5, List.mem_cons, List.not_mem_nil, or_false] at hr
    rcases hr with rfl | rfl | rfl | rfl | rfl
    all_goals exact World.ownsRow_nil _ _ _ _
  · simp [rows5, away, Value.ownBlock]
  · intro r hr
    simp only [rows5, List.mem_cons, List.not_mem_nil, or_false] at hr
    rcases hr with rfl | rfl | rfl | rfl | rfl
    all_goals simp [Value.ownBlock]
/-- the sets of an expression, if it is one -/
def setsL (L : List Stp) : List Stp := if (measV L).2 = 0 then sets L else []
/-- a net, and the spots of one expression more -/
def addM (N : NetM) (token : Int) (L : List Stp) : NetM :=
  ⟨N.sets ++ setsL L, N.of ++ List.replicate (setsL L).length token, N.last ++ (List.range (setsL L).length).map (fun i : Nat => decide ((i : Int) ∈ spI (elems (prtL L).last))),
    N.fol ++ (List.range (setsL L).length).map (fun i : Nat => mvd (spI (elems (folL i L))) N.sets.length), N.first ++ mvd (spI (elems (prtL L).first)) N.sets.length⟩
/-- the net of these expressions, the first of which is token number i -/
def fuseM : List (List Stp) → NetM
  | R => (List.range R.length).foldl (fun N (i : Nat) => addM N i (R.getD i [])) ⟨[], [], [], [], []⟩
end Go.Proofs.Ytgaadndhecokfaa

/- append to a row of the call's own, whatever is appended: in a plain region and at a step of a region that draws; the new slice lies in the old block or in a new one. -/
namespace Go.Proofs.Ytgaadndhecokfaa
open Go.RowKit Go.Lib Go.Joins
structure Appd (w w' : World) (base : Nat) (e : TypeId) (size : Nat) (v v' : Value) (n : Nat) (xs : List Value) : Prop where
  own : w'.ownsRow base e size v' n xs
  grown : w.grownBy w' v.ownBlock
  lies : v'.ownBlock = v.ownBlock ∨ v'.ownBlock = some w.heap.size
/-- what is appended: nothing, or the cells at an address -/
def Src (w : World) (x : Value) (m : Nat) (news : List Value) : Prop := (x = .slice none 0 0 ∧ m = 0 ∧ news = []) ∨ ∃ ad c, x = .slice (some ad) m c ∧ ∀ j u, news[j]? = some u → w.cell? (ad.add j) = some u
theorem Src.row {w : World} {base : Nat} {e : TypeId} {size : Nat} {v : Value} {n : Nat} {xs : List Value} (h : w.ownsRow base e size v n xs) : Src w v n xs := by
  rcases h.2 with ⟨rfl, h0⟩ | ⟨g, cap, cur, rfl, _⟩
  · subst h0
    exact .inl ⟨rfl, rfl, List.eq_nil_of_length_eq_zero (by simpa using h.1)⟩
  · exact .inr ⟨_, _, rfl, h.cells rfl⟩
theorem Src.one (w : World) (x : Value) (t : TypeId) (b : Nat) (hb : b = w.heap.size) : Src (w.alloc (.cells #[x] t)) (.slice (some ⟨b, 0, none⟩) 1 1) 1 [x] := by
  subst hb
  exact .inr ⟨_, _, rfl, cell_one_new w x t⟩
section
variable {P : Program} {w : World} {o : Oper} {a : Act} {Q : Exit → Act → World → Prop} {base : Nat} {e t : TypeId} {z : Value} {size bytes : Nat} {v : Value} {n m : Nat} {xs news : List Value}
theorem run_app (ty : TypeId) (hi : (P.info? e).map (fun i => (i.zero, i.size, i.bytes)) = some (some z, size, bytes)) (ht : P.underlying t = some (.slice e)) (hzs : z.cells.size = size) (hsz : 0 < size) (hby : bytes ≤ 64) (hown : w.ownsRow base e size v n xs) {x : Value} (hx : Src w x m news)
    (hl : news.length = m * size) (h1 : ∀ u ∈ news, u.oneCell' = true) (hn : n + m ≤ 1000000) (hbase : base ≤ w.heap.size) :
    ∃ v' w', (Builtin.append_ #[t, t] ty #[v, x]).run P w = .ok v' w' ∧ Appd w w' base e size v v' (n + m) (xs ++ news) := by
  obtain ⟨i0, hi, hz0, hz1, hz2⟩ := info_parts hi
  rcases hx with ⟨rfl, rfl, rfl⟩ | ⟨ad, c, rfl, hc⟩
  · refine ⟨v, w, run_append_owned_none (P := P) (w := w) base t ty e i0 size ht hi v n xs hown, ?_, ⟨rfl, rfl, rfl, Nat.le_refl _, fun _ _ _ => rfl⟩, .inl rfl⟩
    rw [List.append_nil]
    exact hown
  · have hb : (n + m) * bytes ≤ 1000000 * 64 := Nat.mul_le_mul hn hby
    obtain ⟨v', w', hr, h2, h3, _, h5⟩ := run_append_own_at (P := P) w base t ty e i0 z size bytes ht hi hz0 hz1 hz2 hzs hsz v n xs hown ad m c news hl hc h1 (by unfold maxLen; omega) (by omega) hbase
    exact ⟨v', w', hr, h2, h3, h5⟩
theorem wp_app {K : Act → World → Prop} (s x : Operand) (ho : o.op = .call { callee := .builtin .append, args := #[s, x], argTypes := #[t, t] }) (hi : (P.info? e).map (fun i => (i.zero, i.size, i.bytes)) = some (some z, size, bytes)) (ht : P.underlying t = some (.slice e)) (hzs : z.cells.size = size) (hsz : 0 < size) (hby : bytes ≤ 64) (hs : a.eval s = v) (hown : w.ownsRow base e size v n xs) {u : Value} (hu : a.eval x = u) (hx : Src w u m news)
    (hl : news.length = m * size) (h1 : ∀ u ∈ news, u.oneCell' = true) (hn : n + m ≤ 1000000) (hbase : base ≤ w.heap.size)
    (h : ∀ v' w', Appd w w' base e size v v' (n + m) (xs ++ news) → K (a.put o.dst v') w') : o.wp P a w K Q := by
  obtain ⟨v', w', hr, hA⟩ := run_app o.type hi ht hzs hsz hby hown hx hl h1 hn hbase
  unfold Oper.wp execOp
  simp only [ho, resolve, invoke, builtin, Sem.run_bind, Sem.run_pure, Result.andThen_ok, List.map_toArray, List.map_cons, List.map_nil, hs, hu, hr]
  exact h v' w' hA
theorem wpList_app {ops : Array Oper} {rest : List Oper} (hgd : o.guard = none) (s x : Operand) (ho : o.op = .call { callee := .builtin .append, args := #[s, x], argTypes := #[t, t] }) (hi : (P.info? e).map (fun i => (i.zero, i.size, i.bytes)) = some (some z, size, bytes)) (ht : P.underlying t = some (.slice e)) (hzs : z.cells.size = size) (hsz : 0 < size) (hby : bytes ≤ 64) (hs : a.eval s = v) (hown : w.ownsRow base e size v n xs) {u : Value} (hu : a.eval x = u) (hx : Src w u m news)
    (hl : news.length = m * size) (h1 : ∀ u ∈ news, u.oneCell' = true) (hn : n + m ≤ 1000000) (hbase : base ≤ w.heap.size)
    (h : ∀ v' w', Appd w w' base e size v v' (n + m) (xs ++ news) → wpList P ops Q rest (a.put o.dst v') w') : wpList P ops Q (o :: rest) a w :=
  wpList_plain hgd fun _ hK => wp_app s x ho hi ht hzs hsz hby hs hown hu hx hl h1 hn hbase fun v' w' hA => hK _ _ (h v' w' hA)
theorem step_app {K : Act → World → Prop} {E : Prop} {ops : Array Oper} (hgd : o.guard = none) (s x : Operand) (ho : o.op = .call { callee := .builtin .append, args := #[s, x], argTypes := #[t, t] }) (hi : (P.info? e).map (fun i => (i.zero, i.size, i.bytes)) = some (some z, size, bytes)) (ht : P.underlying t = some (.slice e)) (hzs : z.cells.size = size) (hsz : 0 < size) (hby : bytes ≤ 64) (hs : a.eval s = v) (hown : w.ownsRow base e size v n xs) {u : Value} (hu : a.eval x = u) (hx : Src w u m news)
    (hl : news.length = m * size) (h1 : ∀ u ∈ news, u.oneCell' = true) (hn : n + m ≤ 1000000) (hbase : base ≤ w.heap.size)
    (h : ∀ v' w', Appd w w' base e size v v' (n + m) (xs ++ news) → K (a.put o.dst v') w') : if Region.wanted o (yielded ops a.tmps) = true then Oper.wp P o a w K Q else E := by
  have hw : Region.wanted o (yielded ops a.tmps) = true := by simp [Region.wanted, hgd]
  rw [if_pos hw]
  exact wp_app s x ho hi ht hzs hsz hby hs hown hu hx hl h1 hn hbase h
end
theorem infoB : (Try.prog.info? 4).map (fun i => (i.zero, i.size, i.bytes)) = some (some (.bool false), 1, 1) := by kernel_rfl
theorem infoZZ : (Try.prog.info? 24).map (fun i => (i.zero, i.size, i.bytes)) = some (some (.slice none 0 0), 1, 24) := by kernel_rfl
end Go.Proofs.Ytgaadndhecokfaa

/- Small words for add: a put keeps what lies below; tables and steps below a number. -/
namespace Go.Proofs.Ytgaadndhecokfaa
open Go.RowKit Go.Lib Go.Joins
theorem rowS_slice2 {w : World} {base : Nat} {v : Value} {S : List Stp} (h : RowS w base v S) : ∃ a c, v = .slice a S.length c := by
  rcases ownsRow_forms h with ⟨rfl, h0⟩ | ⟨g, cap, rfl⟩
  · exact ⟨none, 0, by rw [h0]⟩
  · exact ⟨_, _, rfl⟩
theorem row_slice {w : World} {base : Nat} {e : TypeId} {size : Nat} {v : Value} {n : Nat} {xs : List Value} (h : w.ownsRow base e size v n xs) : ∃ a c, v = .slice a n c := by
  rcases ownsRow_forms h with ⟨rfl, h0⟩ | ⟨g, cap, rfl⟩
  · exact ⟨none, 0, by rw [h0]⟩
  · exact ⟨_, _, rfl⟩
theorem rowS_app {w : World} {base : Nat} {v : Value} {S S' : List Stp} (h : w.ownsRow base 90 4 v (S.length + S'.length) (S.flatMap setC ++ S'.flatMap setC)) : RowS w base v (S ++ S') := by
  unfold RowS
  rw [List.length_append, List.flatMap_append]
  exact h
theorem rowZ_app {w : World} {base : Nat} {v : Value} {l m : List Int} (h : w.ownsRow base 3 1 v (l.length + m.length) (l.map (Value.int .i64) ++ m.map (Value.int .i64))) : RowZ w base v (l ++ m) := by
  unfold RowZ
  rw [List.length_append, List.map_append]
  exact h
theorem rowB_app {w : World} {base : Nat} {v : Value} {l m : List Bool} (h : w.ownsRow base 4 1 v (l.length + m.length) (l.map Value.bool ++ m.map Value.bool)) : w.ownsRow base 4 1 v (l ++ m).length ((l ++ m).map Value.bool) := by
  rw [List.length_append, List.map_append]
  exact h
section
variable {w w0 w' : World} {NB base : Nat} {vs vo vl vf v1 : Value} {us : List Value} {N : NetM}
theorem NetW.apartS (h : NetW w NB base vs vo vl vf v1 us N) : some NB ≠ vs.ownBlock := fun e => h.own.out ⟨90, 4, vs, N.sets.length, N.sets.flatMap setC⟩ (by simp [rows5]) e.symm
theorem NetW.apartO (h : NetW w NB base vs vo vl vf v1 us N) : some NB ≠ vo.ownBlock := fun e => h.own.out ⟨3, 1, vo, N.of.length, N.of.map (Value.int .i64)⟩ (by simp [rows5]) e.symm
theorem NetW.apartL (h : NetW w NB base vs vo vl vf v1 us N) : some NB ≠ vl.ownBlock := fun e => h.own.out ⟨4, 1, vl, N.last.length, N.last.map Value.bool⟩ (by simp [rows5]) e.symm
theorem NetW.apartF (h : NetW w NB base vs vo vl vf v1 us N) : some NB ≠ vf.ownBlock := fun e => h.own.out ⟨24, 1, vf, N.fol.length, us⟩ (by simp [rows5]) e.symm
theorem NetW.apart1 (h : NetW w NB base vs vo vl vf v1 us N) : some NB ≠ v1.ownBlock := fun e => h.own.out ⟨3, 1, v1, N.first.length, N.first.map (Value.int .i64)⟩ (by simp [rows5]) e.symm
/-- behind an append to a row: the object's cells, and it may be written -/
theorem NetW.still (h : NetW w NB base vs vo vl vf v1 us N) {o : Option Nat} (hg : w.grownBy w' o) (ha : some NB ≠ o) : w'.heap[NB]? = some (.cells #[vs, vo, vl, vf, v1] 53 (0, 0)) := (hg.block NB h.own.lt ha).trans h.obj
theorem frozen_row {g : Nat} {cs : Array Value} {t : TypeId} (h : w.heap[g]? = some (.cells cs t (0, 0))) (j : Nat) : w.frozen? ⟨g, j, none⟩ = false := by
  simp [World.frozen?, h]
/-- what lies below stays below, over an append and the store of the new slice -/
theorem put_below {i : Nat} {o : Option Nat} {u : Value} (h0 : Below base w0 w) (hs : base ≤ w.heap.size) (hg : w.grownBy w' o) (hlow : ∀ j, o = some j → base ≤ j) (hB : base ≤ NB) : Below base w0 (w'.setCell ⟨NB, i, none⟩ u) :=
  (h0.grown hg hs hlow).setCell hB u
theorem row_low {e : TypeId} {size : Nat} {v : Value} {n : Nat} {xs : List Value} (h : w.ownsRow base e size v n xs) : ∀ j, v.ownBlock = some j → base ≤ j := fun j e => (World.ownsRow.lt h j e).1
end
theorem setsL_len (L : List Stp) : (setsL L).length ≤ L.length := by
  unfold setsL
  split
  · exact List.length_filter_le _ _
  · simp
/-- a net that is built, and a list beside it, behind a call's beginning -/
def StN (w0 : World) (NB base : Nat) (u : Value) (lst : List Int) (N : NetM) (w : World) : Prop :=
  ∃ vs vo vl vf v1 us, NetW w NB base vs vo vl vf v1 us N ∧ ElR (Far w NB (rows5 vs vo vl vf v1 us N)) w u lst ∧ Below base w0 w
section
variable {w w0 w' : World} {NB base : Nat} {vs vo vl vf v1 u : Value} {us : List Value} {N : NetM} {lst : List Int}
theorem far_kept {rs : List R5} (h : ElR (Far w NB rs) w u lst) (hb : Below w.heap.size w w') : ElR (Far w' NB rs) w' u lst :=
  h.mono fun k hk => ⟨⟨Nat.lt_of_lt_of_le hk.1 hb.size, hk.2⟩, hb.block k hk.1⟩
/-- what a callee has made lies far from the net -/
theorem NetW.fresh {B : Nat} (h : NetW w NB base vs vo vl vf v1 us N) (hr : RowZ w' B u lst) (hB : w.heap.size ≤ B) : ElR (Far w' NB (rows5 vs vo vl vf v1 us N)) w' u lst :=
  hr.el.mono fun k hk => ⟨⟨hk.2, fun hI => by have := h.own.ltO hI; omega⟩, rfl⟩
theorem StN.putS {S' : List Stp} {v' : Value} (h : NetW w NB base vs vo vl vf v1 us N) (hE : ElR (Far w NB (rows5 vs vo vl vf v1 us N)) w u lst) (h0 : Below base w0 w) (hB : base ≤ NB) (hs : base ≤ w.heap.size)
    (hA : Appd w w' base 90 4 vs v' (N.sets.length + S'.length) (N.sets.flatMap setC ++ S'.flatMap setC)) : StN w0 NB base u lst { N with sets := N.sets ++ S' } (w'.setCell ⟨NB, 0, none⟩ v') :=
  ⟨_, _, _, _, _, _, h.putS hA.grown (rowS_app hA.own) hA.lies, hE.mono fun k hk => by
    obtain ⟨h1, h2⟩ := InO.other (w := w) (w' := w') (NB := NB) (rs := rows5 vs vo vl vf v1 us N) 0 (by simp [rows5]) ⟨90, 4, v', (N.sets ++ S').length, (N.sets ++ S').flatMap setC⟩ hA.grown hA.lies hk.1 hk.2
    exact ⟨⟨by have := hA.grown.size; have := hk.1; simp; omega, h2⟩, h1⟩, put_below h0 hs hA.grown (row_low h.rowS) hB⟩
theorem StN.putO {m : List Int} {v' : Value} (h : NetW w NB base vs vo vl vf v1 us N) (hE : ElR (Far w NB (rows5 vs vo vl vf v1 us N)) w u lst) (h0 : Below base w0 w) (hB : base ≤ NB) (hs : base ≤ w.heap.size)
    (hA : Appd w w' base 3 1 vo v' (N.of.length + m.length) (N.of.map (Value.int .i64) ++ m.map (Value.int .i64))) : StN w0 NB base u lst { N with of := N.of ++ m } (w'.setCell ⟨NB, 1, none⟩ v') :=
  ⟨_, _, _, _, _, _, h.putO hA.grown (rowZ_app hA.own) hA.lies, hE.mono fun k hk => by
    obtain ⟨h1, h2⟩ := InO.other (w := w) (w' := w') (NB := NB) (rs := rows5 vs vo vl vf v1 us N) 1 (by simp [rows5]) ⟨3, 1, v', (N.of ++ m).length, (N.of ++ m).map (Value.int .i64)⟩ hA.grown hA.lies hk.1 hk.2
    exact ⟨⟨by have := hA.grown.size; have := hk.1; simp; omega, h2⟩, h1⟩, put_below h0 hs hA.grown (row_low h.rowO) hB⟩
theorem StN.putL {m : List Bool} {v' : Value} (h : NetW w NB base vs vo vl vf v1 us N) (hE : ElR (Far w NB (rows5 vs vo vl vf v1 us N)) w u lst) (h0 : Below base w0 w) (hB : base ≤ NB) (hs : base ≤ w.heap.size)
    (hA : Appd w w' base 4 1 vl v' (N.last.length + m.length) (N.last.map Value.bool ++ m.map Value.bool)) : StN w0 NB base u lst { N with last := N.last ++ m } (w'.setCell ⟨NB, 2, none⟩ v') :=
  ⟨_, _, _, _, _, _, h.putL hA.grown (rowB_app hA.own) hA.lies, hE.mono fun k hk => by
    obtain ⟨h1, h2⟩ := InO.other (w := w) (w' := w') (NB := NB) (rs := rows5 vs vo vl vf v1 us N) 2 (by simp [rows5]) ⟨4, 1, v', (N.last ++ m).length, (N.last ++ m).map Value.bool⟩ hA.grown hA.lies hk.1 hk.2
    exact ⟨⟨by have := hA.grown.size; have := hk.1; simp; omega, h2⟩, h1⟩, put_below h0 hs hA.grown (row_low h.rowL) hB⟩
theorem StN.put1 {m : List Int} {v' : Value} (h : NetW w NB base vs vo vl vf v1 us N) (hE : ElR (Far w NB (rows5 vs vo vl vf v1 us N)) w u lst) (h0 : Below base w0 w) (hB : base ≤ NB) (hs : base ≤ w.heap.size)
    (hA : Appd w w' base 3 1 v1 v' (N.first.length + m.length) (N.first.map (Value.int .i64) ++ m.map (Value.int .i64))) : StN w0 NB base u lst { N with first := N.first ++ m } (w'.setCell ⟨NB, 4, none⟩ v') :=
  ⟨_, _, _, _, _, _, h.put1 hA.grown (rowZ_app hA.own) hA.lies, hE.mono fun k hk => by
    obtain ⟨h1, h2⟩ := InO.other (w := w) (w' := w') (NB := NB) (rs := rows5 vs vo vl vf v1 us N) 4 (by simp [rows5]) ⟨3, 1, v', (N.first ++ m).length, (N.first ++ m).map (Value.int .i64)⟩ hA.grown hA.lies hk.1 hk.2
    exact ⟨⟨by have := hA.grown.size; have := hk.1; simp; omega, h2⟩, h1⟩, put_below h0 hs hA.grown (row_low h.row1) hB⟩
theorem StN.putF {x : Value} {l : List Int} {v' : Value} (h : NetW w NB base vs vo vl vf v1 us N) (hE : ElR (Far w NB (rows5 vs vo vl vf v1 us N)) w u lst) (h0 : Below base w0 w) (hB : base ≤ NB) (hs : base ≤ w.heap.size)
    (hx : ElR (Far w NB (rows5 vs vo vl vf v1 us N)) w x l) (hA : Appd w w' base 24 1 vf v' (N.fol.length + 1) (us ++ [x])) : StN w0 NB base u lst { N with fol := N.fol ++ [l] } (w'.setCell ⟨NB, 3, none⟩ v') := by
  have hR : rows5 vs vo vl v' v1 (us ++ [x]) { N with fol := N.fol ++ [l] } = (rows5 vs vo vl vf v1 us N).set 3 ⟨24, 1, v', N.fol.length + 1, us ++ [x]⟩ := by simp [rows5]
  refine ⟨_, _, _, _, _, _, h.putF hx hA.grown hA.own hA.lies, hE.mono fun k hk => ?_, put_below h0 hs hA.grown (row_low h.rowF) hB⟩
  obtain ⟨h1, h2⟩ := InO.other (w := w) (w' := w') (NB := NB) (rs := rows5 vs vo vl vf v1 us N) 3 (by simp [rows5]) ⟨24, 1, v', N.fol.length + 1, us ++ [x]⟩ hA.grown hA.lies hk.1 hk.2
  rw [hR]
  exact ⟨⟨by have := hA.grown.size; have := hk.1; simp; omega, h2⟩, h1⟩
end
end Go.Proofs.Ytgaadndhecokfaa

/- Contract of Has. -/
namespace Go.Proofs.Ytgaadndhecokfaa
open Go.RowKit Go.Lib Go.Joins

end Go.Proofs.Ytgaadndhecokfaa
