/- FuPut, FuHas, FuAdd, FuFuse, put together. -/
import Derived.Test.YtnjjbaodfjmiaaaGreatLt16
import Derived.Test.YtnjjbaodfjmiaaaGreatLt13
import Derived.Deep.RegionLaw
import Derived.Deep.Cut
import Derived.Deep.CutRange
/- Small words for add: a put keeps what lies below; tables and steps below a number. -/
namespace Go.Proofs.YtnjjbaodfjmiaaaGreat
open Go.RowKit Go.Lib Go.Joins
theorem rowS_slice2 {w : World} {base : Nat} {v : Value} {S : List Stp} (h : RowS w base v S) : ∃ a c, v = .slice a S.length c := by
  rcases ownsRow_forms h with ⟨rfl, h0⟩ | ⟨g, cap, rfl⟩
  · exact ⟨none, 0, by rw [h0]⟩
  · exact ⟨_, _, rfl⟩
theorem row_slice {w : World} {base : Nat} {e : TypeId} {size : Nat} {v : Value} {n : Nat} {xs : List Value} (h : w.ownsRow base e size v n xs) : ∃ a c, v = .slice a n c := by
  rcases ownsRow_forms h with ⟨rfl, h0⟩ | ⟨g, cap, rfl⟩
  · exact ⟨none, 0, by rw [h0]⟩
  · exact ⟨_, _, rfl⟩
theorem rowS_app {w : World} {base : Nat} {v : Value} {S S' : List Stp} (h : w.ownsRow base 103 4 v (S.length + S'.length) (S.flatMap setC ++ S'.flatMap setC)) : RowS w base v (S ++ S') := by
  unfold RowS
  rw [List.length_append, List.flatMap_append]
  exact h
theorem rowZ_app {w : World} {base : Nat} {v : Value} {l m : List Int} (h : w.ownsRow base 3 1 v (l.length + m.length) (l.map (Value.int .i64) ++ m.map (Value.int .i64))) : RowZ w base v (l ++ m) := by
  unfold RowZ
  rw [List.length_append, List.map_append]
  exact h
theorem rowB_app {w : World} {base : Nat} {v : Value} {l m : List Bool} (h : w.ownsRow base 4 1 v (l.length + m.length) (l.map Value.bool ++ m.map Value.bool)) : w.ownsRow base 4 1 v (l ++ m).length ((l ++ m).map Value.bool) := by
  rw [List.length_append, List.map_append]
  exact h
section
variable {w w0 w' : World} {NB base : Nat} {vs vo vl vf v1 : Value} {us : List Value} {N : NetM}
theorem NetW.apartS (h : NetW w NB base vs vo vl vf v1 us N) : some NB ≠ vs.ownBlock := fun e => h.own.out ⟨103, 4, vs, N.sets.length, N.sets.flatMap setC⟩ (by simp [rows5]) e.symm
theorem NetW.apartO (h : NetW w NB base vs vo vl vf v1 us N) : some NB ≠ vo.ownBlock := fun e => h.own.out ⟨3, 1, vo, N.of.length, N.of.map (Value.int .i64)⟩ (by simp [rows5]) e.symm
theorem NetW.apartL (h : NetW w NB base vs vo vl vf v1 us N) : some NB ≠ vl.ownBlock := fun e => h.own.out ⟨4, 1, vl, N.last.length, N.last.map Value.bool⟩ (by simp [rows5]) e.symm
theorem NetW.apartF (h : NetW w NB base vs vo vl vf v1 us N) : some NB ≠ vf.ownBlock := fun e => h.own.out ⟨24, 1, vf, N.fol.length, us⟩ (by simp [rows5]) e.symm
theorem NetW.apart1 (h : NetW w NB base vs vo vl vf v1 us N) : some NB ≠ v1.ownBlock := fun e => h.own.out ⟨3, 1, v1, N.first.length, N.first.map (Value.int .i64)⟩ (by simp [rows5]) e.symm
/-- behind an append to a row: the object's cells, and it may be written -/
theorem NetW.still (h : NetW w NB base vs vo vl vf v1 us N) {o : Option Nat} (hg : w.grownBy w' o) (ha : some NB ≠ o) : w'.heap[NB]? = some (.cells #[vs, vo, vl, vf, v1] 72 (0, 0)) := (hg.block NB h.own.lt ha).trans h.obj
theorem frozen_row {g : Nat} {cs : Array Value} {t : TypeId} (h : w.heap[g]? = some (.cells cs t (0, 0))) (j : Nat) : w.frozen? ⟨g, j, none⟩ = false := by
  simp [World.frozen?, h]
/-- what lies below stays below, over an append and the store of the new slice -/
theorem put_below {i : Nat} {o : Option Nat} {u : Value} (h0 : Below base w0 w) (hs : base ≤ w.heap.size) (hg : w.grownBy w' o) (hlow : ∀ j, o = some j → base ≤ j) (hB : base ≤ NB) : Below base w0 (w'.setCell ⟨NB, i, none⟩ u) :=
  (h0.grown hg hs hlow).setCell hB u
theorem row_low {e : TypeId} {size : Nat} {v : Value} {n : Nat} {xs : List Value} (h : w.ownsRow base e size v n xs) : ∀ j, v.ownBlock = some j → base ≤ j := fun j e => (World.ownsRow.lt h j e).1
end
theorem setsL_len (L : List Stp) : (setsL L).length ≤ L.length := by
  unfold setsL
  split
  · exact List.length_filter_le _ _
  · simp
/-- a net that is built, and a list beside it, behind a call's beginning -/
def StN (w0 : World) (NB base : Nat) (u : Value) (lst : List Int) (N : NetM) (w : World) : Prop :=
  ∃ vs vo vl vf v1 us, NetW w NB base vs vo vl vf v1 us N ∧ ElR (Far w NB (rows5 vs vo vl vf v1 us N)) w u lst ∧ Below base w0 w
section
variable {w w0 w' : World} {NB base : Nat} {vs vo vl vf v1 u : Value} {us : List Value} {N : NetM} {lst : List Int}
theorem far_kept {rs : List R5} (h : ElR (Far w NB rs) w u lst) (hb : Below w.heap.size w w') : ElR (Far w' NB rs) w' u lst :=
  h.mono fun k hk => ⟨⟨Nat.lt_of_lt_of_le hk.1 hb.size, hk.2⟩, hb.block k hk.1⟩
/-- what a callee has made lies far from the net -/
theorem NetW.fresh {B : Nat} (h : NetW w NB base vs vo vl vf v1 us N) (hr : RowZ w' B u lst) (hB : w.heap.size ≤ B) : ElR (Far w' NB (rows5 vs vo vl vf v1 us N)) w' u lst :=
  hr.el.mono fun k hk => ⟨⟨hk.2, fun hI => by have := h.own.ltO hI; omega⟩, rfl⟩
theorem StN.putS {S' : List Stp} {v' : Value} (h : NetW w NB base vs vo vl vf v1 us N) (hE : ElR (Far w NB (rows5 vs vo vl vf v1 us N)) w u lst) (h0 : Below base w0 w) (hB : base ≤ NB) (hs : base ≤ w.heap.size)
    (hA : Appd w w' base 103 4 vs v' (N.sets.length + S'.length) (N.sets.flatMap setC ++ S'.flatMap setC)) : StN w0 NB base u lst { N with sets := N.sets ++ S' } (w'.setCell ⟨NB, 0, none⟩ v') :=
  ⟨_, _, _, _, _, _, h.putS hA.grown (rowS_app hA.own) hA.lies, hE.mono fun k hk => by
    obtain ⟨h1, h2⟩ := InO.other (w := w) (w' := w') (NB := NB) (rs := rows5 vs vo vl vf v1 us N) 0 (by simp [rows5]) ⟨103, 4, v', (N.sets ++ S').length, (N.sets ++ S').flatMap setC⟩ hA.grown hA.lies hk.1 hk.2
    exact ⟨⟨by have := hA.grown.size; have := hk.1; simp; omega, h2⟩, h1⟩, put_below h0 hs hA.grown (row_low h.rowS) hB⟩
theorem StN.putO {m : List Int} {v' : Value} (h : NetW w NB base vs vo vl vf v1 us N) (hE : ElR (Far w NB (rows5 vs vo vl vf v1 us N)) w u lst) (h0 : Below base w0 w) (hB : base ≤ NB) (hs : base ≤ w.heap.size)
    (hA : Appd w w' base 3 1 vo v' (N.of.length + m.length) (N.of.map (Value.int .i64) ++ m.map (Value.int .i64))) : StN w0 NB base u lst { N with of := N.of ++ m } (w'.setCell ⟨NB, 1, none⟩ v') :=
  ⟨_, _, _, _, _, _, h.putO hA.grown (rowZ_app hA.own) hA.lies, hE.mono fun k hk => by
    obtain ⟨h1, h2⟩ := InO.other (w := w) (w' := w') (NB := NB) (rs := rows5 vs vo vl vf v1 us N) 1 (by simp [rows5]) ⟨3, 1, v', (N.of ++ m).length, (N.of ++ m).map (Value.int .i64)⟩ hA.grown hA.lies hk.1 hk.2
    exact ⟨⟨by have := hA.grown.size; have := hk.1; simp; omega, h2⟩, h1⟩, put_below h0 hs hA.grown (row_low h.rowO) hB⟩
theorem StN.putL {m : List Bool} {v' : Value} (h : NetW w NB base vs vo vl vf v1 us N) (hE : ElR (Far w NB (rows5 vs vo vl vf v1 us N)) w u lst) (h0 : Below base w0 w) (hB : base ≤ NB) (hs : base ≤ w.heap.size)
    (hA : Appd w w' base 4 1 vl v' (N.last.length + m.length) (N.last.map Value.bool ++ m.map Value.bool)) : StN w0 NB base u lst { N with last := N.last ++ m } (w'.setCell ⟨NB, 2, none⟩ v') :=
  ⟨_, _, _, _, _, _, h.putL hA.grown (rowB_app hA.own) hA.lies, hE.mono fun k hk => by
    obtain ⟨h1, h2⟩ := InO.other (w := w) (w' := w') (NB := NB) (rs := rows5 vs vo vl vf v1 us N) 2 (by simp [rows5]) ⟨4, 1, v', (N.last ++ m).length, (N.last ++ m).map Value.bool⟩ hA.grown hA.lies hk.1 hk.2
    exact ⟨⟨by have := hA.grown.size; have := hk.1; simp; omega, h2⟩, h1⟩, put_below h0 hs hA.grown (row_low h.rowL) hB⟩
theorem StN.put1 {m : List Int} {v' : Value} (h : NetW w NB base vs vo vl vf v1 us N) (hE : ElR (Far w NB (rows5 vs vo vl vf v1 us N)) w u lst) (h0 : Below base w0 w) (hB : base ≤ NB) (hs : base ≤ w.heap.size)
    (hA : Appd w w' base 3 1 v1 v' (N.first.length + m.length) (N.first.map (Value.int .i64) ++ m.map (Value.int .i64))) : StN w0 NB base u lst { N with first := N.first ++ m } (w'.setCell ⟨NB, 4, none⟩ v') :=
  ⟨_, _, _, _, _, _, h.put1 hA.grown (rowZ_app hA.own) hA.lies, hE.mono fun k hk => by
    obtain ⟨h1, h2⟩ := InO.other (w := w) (w' := w') (NB := NB) (rs := rows5 vs vo vl vf v1 us N) 4 (by simp [rows5]) ⟨3, 1, v', (N.first ++ m).length, (N.first ++ m).map (Value.int .i64)⟩ hA.grown hA.lies hk.1 hk.2
    exact ⟨⟨by have := hA.grown.size; have := hk.1; simp; omega, h2⟩, h1⟩, put_below h0 hs hA.grown (row_low h.row1) hB⟩
theorem StN.putF {x : Value} {l : List Int} {v' : Value} (h : NetW w NB base vs vo vl vf v1 us N) (hE : ElR (Far w NB (rows5 vs vo vl vf v1 us N)) w u lst) (h0 : Below base w0 w) (hB : base ≤ NB) (hs : base ≤ w.heap.size)
    (hx : ElR (Far w NB (rows5 vs vo vl vf v1 us N)) w x l) (hA : Appd w w' base 24 1 vf v' (N.fol.length + 1) (us ++ [x])) : StN w0 NB base u lst { N with fol := N.fol ++ [l] } (w'.setCell ⟨NB, 3, none⟩ v') := by
  have hR : rows5 vs vo vl v' v1 (us ++ [x]) { N with fol := N.fol ++ [l] } = (rows5 vs vo vl vf v1 us N).set 3 ⟨24, 1, v', N.fol.length + 1, us ++ [x]⟩ := by simp [rows5]
  refine ⟨_, _, _, _, _, _, h.putF hx hA.grown hA.own hA.lies, hE.mono fun k hk => ?_, put_below h0 hs hA.grown (row_low h.rowF) hB⟩
  obtain ⟨h1, h2⟩ := InO.other (w := w) (w' := w') (NB := NB) (rs := rows5 vs vo vl vf v1 us N) 3 (by simp [rows5]) ⟨24, 1, v', N.fol.length + 1, us ++ [x]⟩ hA.grown hA.lies hk.1 hk.2
  rw [hR]
  exact ⟨⟨by have := hA.grown.size; have := hk.1; simp; omega, h2⟩, h1⟩
end
end Go.Proofs.YtnjjbaodfjmiaaaGreat

/- Contract of Has. -/
namespace Go.Proofs.YtnjjbaodfjmiaaaGreat
open Go.RowKit Go.Lib Go.Joins

end Go.Proofs.YtnjjbaodfjmiaaaGreat

/- Contract of add. -/
namespace Go.Proofs.YtnjjbaodfjmiaaaGreat
open Go.RowKit Go.Lib Go.Joins
theorem sp_le (f : Nat → Bool) : (spI (elems f)).length ≤ 256 := by rw [spI_len]; exact elems_le f
end Go.Proofs.YtnjjbaodfjmiaaaGreat

/- Tokens as they are read, and the contract of Fuse. -/
namespace Go.Proofs.YtnjjbaodfjmiaaaGreat
open Go.RowKit Go.Lib Go.Joins
/-- a slice of tokens whose expressions read as these -/
def Toks (C : Nat → Prop) (w : World) (v : Value) (T : List (List Stp)) : Prop := ∃ a cap, v = .slice a T.length cap ∧ T.length ≤ cap ∧ cap ≤ maxLen ∧ (0 < T.length → ∃ b off, a = some ⟨b, off, none⟩ ∧ C b ∧ ∀ i, i < T.length → ∃ u, w.cell? ⟨b, off + i * 3 + 1, none⟩ = some u ∧ SlX C w u (T.getD i []))
theorem Toks.below {C C' : Nat → Prop} {w w' : World} {v : Value} {T : List (List Stp)} (h : Toks C w v T) (hb : ∀ b, C b → C' b ∧ w'.heap[b]? = w.heap[b]?) : Toks C' w' v T := by
  obtain ⟨a, cap, rfl, h1, h2, h3⟩ := h
  refine ⟨a, cap, rfl, h1, h2, fun hp => ?_⟩
  obtain ⟨b, off, e, hC, hc⟩ := h3 hp
  refine ⟨b, off, e, (hb b hC).1, fun i hi => ?_⟩
  obtain ⟨u, hu, hr⟩ := hc i hi
  exact ⟨u, (World.cell?_of_block (a := ⟨b, off + i * 3 + 1, none⟩) (hb b hC).2).trans hu, hr.below hb⟩
theorem Toks.at {C C' : Nat → Prop} {w w' : World} {a : Option Addr} {n c : Nat} {T : List (List Stp)} (h : Toks C w (.slice a n c) T) (hb : ∀ b, C b → C' b ∧ w'.heap[b]? = w.heap[b]?) (i : Nat) (hi : i < T.length) :
    ∃ b off a' c', a = some ⟨b, off, none⟩ ∧ C' b ∧ w'.cell? ⟨b, off + i * 3 + 1, none⟩ = some (.slice a' (T.getD i []).length c') ∧ SlX C' w' (.slice a' (T.getD i []).length c') (T.getD i []) := by
  obtain ⟨a', cap, e, h1, h2, h3⟩ := h.below hb
  simp only [Value.slice.injEq] at e
  obtain ⟨rfl, rfl, rfl⟩ := e
  obtain ⟨b, off, rfl, hC, hc⟩ := h3 (by omega)
  obtain ⟨u, hu, hr⟩ := hc i hi
  obtain ⟨a2, c2, rfl, _⟩ := id hr
  exact ⟨b, off, a2, c2, rfl, hC, hu, hr⟩
/-- the net of the first k tokens -/
def fuseK (T : List (List Stp)) (k : Nat) : NetM := (List.range k).foldl (fun N (i : Nat) => addM N i (T.getD i [])) ⟨[], [], [], [], []⟩
theorem fuseK_more (T : List (List Stp)) (k : Nat) : fuseK T (k + 1) = addM (fuseK T k) k (T.getD k []) := by
  simp [fuseK, List.range_succ]
theorem fuseK_all (T : List (List Stp)) : fuseK T T.length = fuseM T := rfl
/-- few tokens, of few steps -/
structure FewT (T : List (List Stp)) : Prop where
  len : T.length ≤ 12
  each : ∀ i, (T.getD i []).length ≤ 90
  wide : ∀ i, ∀ s ∈ T.getD i [], s.wide
theorem fuseK_len {T : List (List Stp)} (h : FewT T) : ∀ k, k ≤ 12 → (fuseK T k).sets.length ≤ k * 256 ∧ (fuseK T k).of.length ≤ k * 256 ∧ (fuseK T k).last.length ≤ k * 256 ∧ (fuseK T k).fol.length ≤ k * 256 ∧ (fuseK T k).first.length ≤ k * 256
  | 0, _ => by simp [fuseK]
  | k + 1, hk => by
    obtain ⟨h1, h2, h3, h4, h5⟩ := fuseK_len h k (by omega)
    rw [fuseK_more]
    have h6 := setsL_len (T.getD k [])
    have h7 := h.each k
    have h8 := sp_le (prtL (T.getD k [])).first
    simp only [addM, List.length_append, List.length_replicate, List.length_map, List.length_range, mvd_len]
    refine ⟨?_, ?_, ?_, ?_, ?_⟩ <;> omega
/-- a net by value -/
def netV (vs vo vl vf v1 : Value) : Value := .agg #[vs, vo, vl, vf, v1]
/-- what a maker of nets hands back -/
def RetN (w : World) (N : NetM) (e : Ending) (w' : World) : Prop := ∃ vs vo vl vf v1, e = .returned (netV vs vo vl vf v1) ∧ RdNet w'.heap.size w' vs vo vl vf v1 N ∧ Below w.heap.size w w'
theorem five_one {vs vo vl vf v1 : Value} {us : List Value} {w : World} {NB base : Nat} {N : NetM} (h : NetW w NB base vs vo vl vf v1 us N) : (#[vs, vo, vl, vf, v1] : Array Value).all (·.oneCell') = true := by
  obtain ⟨_, _, rfl⟩ := rowS_slice2 h.rowS
  obtain ⟨_, _, rfl⟩ := row_slice h.rowO
  obtain ⟨_, _, rfl⟩ := row_slice h.rowL
  obtain ⟨_, _, rfl⟩ := row_slice h.rowF
  obtain ⟨_, _, rfl⟩ := row_slice h.row1
  simp [Value.oneCell']
theorem ret_net {fn : Func} {R : Ending → World → Prop} {a : Act} {w : World} {B p : Nat} {vs vo vl vf v1 : Value} (h : fn.results = #[.cell p 72]) (hp : a.tmps.getD p undef = .pointer (some ⟨B, 0, none⟩))
    (hd : a.defers = []) (hS : w.heap[B]? = some (.cells #[vs, vo, vl, vf, v1] 72 (0, 0))) (hR : R (.returned (netV vs vo vl vf v1)) w) : bodyPost Tryz.prog fn R .ret a w :=
  bodyPost_ret (results_cell_row h _ w B 72 _ (0, 0) _ hp hS Tryz.underlying72 rfl (by kernel_rfl)) hd hR
/-- a block below, of slices alone, may be written -/
theorem NetW.over {vs vo vl vf v1 : Value} {us : List Value} {w w' : World} {NB base B : Nat} {N : NetM} (h : NetW w NB base vs vo vl vf v1 us N) (hg : w.grownBy w' (some B)) (hB : B < base) (hNB : base ≤ NB) (hc : ∀ j u, w.cell? ⟨B, j, none⟩ = some u → ∃ a n c, u = .slice a n c) : NetW w' NB base vs vo vl vf v1 us N := by
  refine ⟨⟨(hg.block NB h.own.lt (fun e => by simp only [Option.some.injEq] at e; omega)).trans h.own.obj, fun r hr => World.ownsRow.kept (h.own.rows r hr) hg (.inr fun e => ?_), h.own.apart, h.own.out⟩, h.len, fun i hi => ?_⟩
  · have := ((h.own.rows r hr).lt B e).1
    omega
  · obtain ⟨a, cap, e, h1, h2, h3, h4⟩ := h.el i hi
    refine ⟨a, cap, e, h1, h2, h3, fun hp => ?_⟩
    obtain ⟨b, off, e2, hP, hcell⟩ := h4 hp
    have hbB : b ≠ B := by
      rintro rfl
      obtain ⟨_, _, _, e3⟩ := hc _ _ (hcell 0 hp)
      cases e3
    have hh := hg.block b hP.1 (fun e => hbB (by simpa using e))
    exact ⟨b, off, e2, ⟨Nat.lt_of_lt_of_le hP.1 hg.size, hP.2⟩, fun i hi => (World.cell?_of_block (a := ⟨b, off + i, none⟩) hh).trans (hcell i hi)⟩
theorem nil_cells {w : World} {B : Nat} {t : TypeId} (h : w.heap[B]? = some (.cells #[.slice none 0 0, .slice none 0 0, .slice none 0 0, .slice none 0 0, .slice none 0 0] t (0, 0))) : ∀ j u, w.cell? ⟨B, j, none⟩ = some u → ∃ a n c, u = .slice a n c := by
  intro j u hu
  rw [cell_of_row w B j _ _ _ h] at hu
  have hm := Array.mem_of_getElem? hu
  simp at hm
  exact ⟨_, _, _, hm⟩
end Go.Proofs.YtnjjbaodfjmiaaaGreat
