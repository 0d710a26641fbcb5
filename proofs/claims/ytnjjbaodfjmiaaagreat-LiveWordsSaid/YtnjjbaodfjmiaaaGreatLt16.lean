/- SpRdN, SpAsk, FuNetE, FuApp, put together. -/
import Derived.Test.YtnjjbaodfjmiaaaGreatLt11
import Derived.Test.YtnjjbaodfjmiaaaGreatLt03
import Derived.Test.YtnjjbaodfjmiaaaGreatLt15
import Derived.Test.YtnjjbaodfjmiaaaGreatLt10
import Derived.Test.YtnjjbaodfjmiaaaGreatLt13
import Derived.Laws.AppendOwnNone
import Derived.RegionTactic
/- read of what is no expression. -/
namespace Go.Proofs.YtnjjbaodfjmiaaaGreat
open Go.RowKit Go.Lib Go.Joins
attribute [local go_sem] evalR_tmp evalR_const evalR_global evalR_func
end Go.Proofs.YtnjjbaodfjmiaaaGreat

/- Contracts of whole, First, Last, Free and Follow. -/
namespace Go.Proofs.YtnjjbaodfjmiaaaGreat
open Go.RowKit Go.Lib Go.Joins
/-- what is known of a list of steps as a whole -/
def prtL (L : List Stp) : Prt := if (measV L).2 = 0 then prtE (treeE L) 0 else ⟨fNone, fNone, false⟩
/-- what follows a number, in a list of steps -/
def folL (i : Int) (L : List Stp) : Nat → Bool := if (measV L).2 = 0 then (met (treeE L) 0).foldl (fun G x => folG i G x.1 x.2) fNone else fNone
end Go.Proofs.YtnjjbaodfjmiaaaGreat

/- What is built behind the pointer reads as a net; the model of add and Fuse. -/
namespace Go.Proofs.YtnjjbaodfjmiaaaGreat
open Go.RowKit Go.Lib Go.Joins
theorem flat_set4 : ∀ (S : List Stp) (i : Nat), i < S.length → ∀ j, j < 4 → (S.flatMap setC)[i * 4 + j]? = (setC (S.getD i default))[j]?
  | [], i, h, _, _ => by simp at h
  | x :: r, 0, h, j, hj => by
    rw [List.flatMap_cons, Nat.zero_mul, Nat.zero_add, List.getElem?_append_left (by simp [setC]; omega)]
    simp
  | x :: r, i + 1, h, j, hj => by
    have ih := flat_set4 r i (by simpa using h) j hj
    have e : (setC x).length = 4 := rfl
    rw [List.flatMap_cons, List.getElem?_append_right (by rw [e]; omega), e, show (i + 1) * 4 + j - 4 = i * 4 + j by omega, ih]
    simp
theorem RowS.reads {w : World} {base : Nat} {v : Value} {S : List Stp} (h : RowS w base v S) : RdS w.heap.size w v S := by
  have h' := h
  rcases h.2 with ⟨rfl, h0⟩ | ⟨g, cap, cur, rfl, hb, hg, h1, h2, h3, h4⟩
  · exact ⟨none, 0, by rw [h0], by omega, by decide, fun _ => rfl, fun hp => by omega⟩
  · refine ⟨some ⟨g, 0, none⟩, cap, rfl, h1, h2, (fun e => by cases e), fun _ => ⟨g, 0, rfl, (Array.getElem?_eq_some_iff.1 hg).1, fun i hi => ?_⟩⟩
    have hc : ∀ j, j < 4 → w.cell? ⟨g, i * 4 + j, none⟩ = (setC (S.getD i default))[j]? := fun j hj => by
      rw [World.ownsRow.cellAt h' (i * 4 + j) (by omega)]
      exact flat_set4 S i hi j hj
    rw [Nat.zero_add]
    exact ⟨hc 0 (by omega), hc 1 (by omega), hc 2 (by omega), hc 3 (by omega)⟩
theorem rowB_reads {w : World} {base : Nat} {v : Value} {l : List Bool} (h : w.ownsRow base 4 1 v l.length (l.map Value.bool)) : RdB w.heap.size w v l := by
  have h' := h
  rcases h.2 with ⟨rfl, h0⟩ | ⟨g, cap, cur, rfl, hb, hg, h1, h2, h3, h4⟩
  · exact ⟨none, 0, by rw [h0], by omega, by decide, fun _ => rfl, fun hp => by omega⟩
  · refine ⟨some ⟨g, 0, none⟩, cap, rfl, h1, h2, (fun e => by cases e), fun _ => ⟨g, 0, rfl, (Array.getElem?_eq_some_iff.1 hg).1, fun i hi => ?_⟩⟩
    rw [Nat.zero_add, World.ownsRow.cellAt h' i (by omega), List.getElem?_map, List.getD_eq_getElem?_getD, List.getElem?_eq_getElem hi]
    rfl
theorem rowF_reads {w : World} {base : Nat} {v : Value} {us : List Value} {L : List (List Int)} (h : w.ownsRow base 24 1 v L.length us) (hl : us.length = L.length) (he : ∀ i, i < L.length → RdZ w.heap.size w (us.getD i undef) (L.getD i [])) : RdZZ w.heap.size w v L := by
  have h' := h
  rcases h.2 with ⟨rfl, h0⟩ | ⟨g, cap, cur, rfl, hb, hg, h1, h2, h3, h4⟩
  · exact ⟨none, 0, by rw [h0], by omega, by decide, fun _ => rfl, fun hp => by omega⟩
  · refine ⟨some ⟨g, 0, none⟩, cap, rfl, h1, h2, (fun e => by cases e), fun _ => ⟨g, 0, rfl, (Array.getElem?_eq_some_iff.1 hg).1, fun i hi => ⟨_, ?_, he i hi⟩⟩⟩
    rw [Nat.zero_add, World.ownsRow.cellAt h' i (by omega), List.getD_eq_getElem?_getD, List.getElem?_eq_getElem (by omega)]
    rfl
theorem NetW.reads {w : World} {NB base : Nat} {vs vo vl vf v1 : Value} {us : List Value} {N : NetM} (h : NetW w NB base vs vo vl vf v1 us N) : RdNet w.heap.size w vs vo vl vf v1 N :=
  ⟨h.rowS.reads, h.rowO.reads, rowB_reads h.rowL, rowF_reads h.rowF h.len fun i hi => (h.el i hi).mono fun _ hk => ⟨hk.1, rfl⟩, h.row1.reads⟩
/-- a net with nothing in it, behind a pointer -/
theorem NetW.nil (w : World) (base : Nat) : NetW (w.alloc (.cells #[.slice none 0 0, .slice none 0 0, .slice none 0 0, .slice none 0 0, .slice none 0 0] 72)) w.heap.size base (.slice none 0 0) (.slice none 0 0) (.slice none 0 0) (.slice none 0 0) (.slice none 0 0) [] ⟨[], [], [], [], []⟩ := by
  refine ⟨⟨heap_alloc_new w _, ?_, ?_, ?_⟩, rfl, fun i hi => absurd hi (by simp)⟩
  · intro r hr
    simp only [rows5, List.mem_cons, List.not_mem_nil, or_false] at hr
    rcases hr with rfl | rfl | rfl | rfl | rfl
    all_goals exact World.ownsRow_nil _ _ _ _
  · simp [rows5, away, Value.ownBlock]
  · intro r hr
    simp only [rows5, List.mem_cons, List.not_mem_nil, or_false] at hr
    rcases hr with rfl | rfl | rfl | rfl | rfl
    all_goals simp [Value.ownBlock]
/-- the sets of an expression, if it is one -/
def setsL (L : List Stp) : List Stp := if (measV L).2 = 0 then sets L else []
/-- a net, and the spots of one expression more -/
def addM (N : NetM) (token : Int) (L : List Stp) : NetM :=
  ⟨N.sets ++ setsL L, N.of ++ List.replicate (setsL L).length token, N.last ++ (List.range (setsL L).length).map (fun i : Nat => decide ((i : Int) ∈ spI (elems (prtL L).last))),
    N.fol ++ (List.range (setsL L).length).map (fun i : Nat => mvd (spI (elems (folL i L))) N.sets.length), N.first ++ mvd (spI (elems (prtL L).first)) N.sets.length⟩
/-- the net of these expressions, the first of which is token number i -/
def fuseM : List (List Stp) → NetM
  | R => (List.range R.length).foldl (fun N (i : Nat) => addM N i (R.getD i [])) ⟨[], [], [], [], []⟩
end Go.Proofs.YtnjjbaodfjmiaaaGreat

/- append to a row of the call's own, whatever is appended: in a plain region and at a step of a region that draws; the new slice lies in the old block or in a new one. -/
namespace Go.Proofs.YtnjjbaodfjmiaaaGreat
open Go.RowKit Go.Lib Go.Joins
structure Appd (w w' : World) (base : Nat) (e : TypeId) (size : Nat) (v v' : Value) (n : Nat) (xs : List Value) : Prop where
  own : w'.ownsRow base e size v' n xs
  grown : w.grownBy w' v.ownBlock
  lies : v'.ownBlock = v.ownBlock ∨ v'.ownBlock = some w.heap.size
/-- what is appended: nothing, or the cells at an address -/
def Src (w : World) (x : Value) (m : Nat) (news : List Value) : Prop := (x = .slice none 0 0 ∧ m = 0 ∧ news = []) ∨ ∃ ad c, x = .slice (some ad) m c ∧ ∀ j u, news[j]? = some u → w.cell? (ad.add j) = some u
theorem Src.row {w : World} {base : Nat} {e : TypeId} {size : Nat} {v : Value} {n : Nat} {xs : List Value} (h : w.ownsRow base e size v n xs) : Src w v n xs := by
  rcases h.2 with ⟨rfl, h0⟩ | ⟨g, cap, cur, rfl, _⟩
  · subst h0
    exact .inl ⟨rfl, rfl, List.eq_nil_of_length_eq_zero (by simpa using h.1)⟩
  · exact .inr ⟨_, _, rfl, h.cells rfl⟩
theorem Src.one (w : World) (x : Value) (t : TypeId) (b : Nat) (hb : b = w.heap.size) : Src (w.alloc (.cells #[x] t)) (.slice (some ⟨b, 0, none⟩) 1 1) 1 [x] := by
  subst hb
  exact .inr ⟨_, _, rfl, cell_one_new w x t⟩
section
variable {P : Program} {w : World} {o : Oper} {a : Act} {Q : Exit → Act → World → Prop} {base : Nat} {e t : TypeId} {z : Value} {size bytes : Nat} {v : Value} {n m : Nat} {xs news : List Value}
theorem run_app (ty : TypeId) (hi : (P.info? e).map (fun i => (i.zero, i.size, i.bytes)) = some (some z, size, bytes)) (ht : P.underlying t = some (.slice e)) (hzs : z.cells.size = size) (hsz : 0 < size) (hby : bytes ≤ 64) (hown : w.ownsRow base e size v n xs) {x : Value} (hx : Src w x m news)
    (hl : news.length = m * size) (h1 : ∀ u ∈ news, u.oneCell' = true) (hn : n + m ≤ 1000000) (hbase : base ≤ w.heap.size) :
    ∃ v' w', (Builtin.append_ #[t, t] ty #[v, x]).run P w = .ok v' w' ∧ Appd w w' base e size v v' (n + m) (xs ++ news) := by
  obtain ⟨i0, hi, hz0, hz1, hz2⟩ := info_parts hi
  rcases hx with ⟨rfl, rfl, rfl⟩ | ⟨ad, c, rfl, hc⟩
  · refine ⟨v, w, run_append_owned_none (P := P) (w := w) base t ty e i0 size ht hi v n xs hown, ?_, ⟨rfl, rfl, rfl, Nat.le_refl _, fun _ _ _ => rfl⟩, .inl rfl⟩
    rw [List.append_nil]
    exact hown
  · have hb : (n + m) * bytes ≤ 1000000 * 64 := Nat.mul_le_mul hn hby
    obtain ⟨v', w', hr, h2, h3, _, h5⟩ := run_append_own_at (P := P) w base t ty e i0 z size bytes ht hi hz0 hz1 hz2 hzs hsz v n xs hown ad m c news hl hc h1 (by unfold maxLen; omega) (by omega) hbase
    exact ⟨v', w', hr, h2, h3, h5⟩
theorem wp_app {K : Act → World → Prop} (s x : Operand) (ho : o.op = .call { callee := .builtin .append, args := #[s, x], argTypes := #[t, t] }) (hi : (P.info? e).map (fun i => (i.zero, i.size, i.bytes)) = some (some z, size, bytes)) (ht : P.underlying t = some (.slice e)) (hzs : z.cells.size = size) (hsz : 0 < size) (hby : bytes ≤ 64) (hs : a.eval s = v) (hown : w.ownsRow base e size v n xs) {u : Value} (hu : a.eval x = u) (hx : Src w u m news)
    (hl : news.length = m * size) (h1 : ∀ u ∈ news, u.oneCell' = true) (hn : n + m ≤ 1000000) (hbase : base ≤ w.heap.size)
    (h : ∀ v' w', Appd w w' base e size v v' (n + m) (xs ++ news) → K (a.put o.dst v') w') : o.wp P a w K Q := by
  obtain ⟨v', w', hr, hA⟩ := run_app o.type hi ht hzs hsz hby hown hx hl h1 hn hbase
  unfold Oper.wp execOp
  simp only [ho, resolve, invoke, builtin, Sem.run_bind, Sem.run_pure, Result.andThen_ok, List.map_toArray, List.map_cons, List.map_nil, hs, hu, hr]
  exact h v' w' hA
theorem wpList_app {ops : Array Oper} {rest : List Oper} (hgd : o.guard = none) (s x : Operand) (ho : o.op = .call { callee := .builtin .append, args := #[s, x], argTypes := #[t, t] }) (hi : (P.info? e).map (fun i => (i.zero, i.size, i.bytes)) = some (some z, size, bytes)) (ht : P.underlying t = some (.slice e)) (hzs : z.cells.size = size) (hsz : 0 < size) (hby : bytes ≤ 64) (hs : a.eval s = v) (hown : w.ownsRow base e size v n xs) {u : Value} (hu : a.eval x = u) (hx : Src w u m news)
    (hl : news.length = m * size) (h1 : ∀ u ∈ news, u.oneCell' = true) (hn : n + m ≤ 1000000) (hbase : base ≤ w.heap.size)
    (h : ∀ v' w', Appd w w' base e size v v' (n + m) (xs ++ news) → wpList P ops Q rest (a.put o.dst v') w') : wpList P ops Q (o :: rest) a w :=
  wpList_plain hgd fun _ hK => wp_app s x ho hi ht hzs hsz hby hs hown hu hx hl h1 hn hbase fun v' w' hA => hK _ _ (h v' w' hA)
theorem step_app {K : Act → World → Prop} {E : Prop} {ops : Array Oper} (hgd : o.guard = none) (s x : Operand) (ho : o.op = .call { callee := .builtin .append, args := #[s, x], argTypes := #[t, t] }) (hi : (P.info? e).map (fun i => (i.zero, i.size, i.bytes)) = some (some z, size, bytes)) (ht : P.underlying t = some (.slice e)) (hzs : z.cells.size = size) (hsz : 0 < size) (hby : bytes ≤ 64) (hs : a.eval s = v) (hown : w.ownsRow base e size v n xs) {u : Value} (hu : a.eval x = u) (hx : Src w u m news)
    (hl : news.length = m * size) (h1 : ∀ u ∈ news, u.oneCell' = true) (hn : n + m ≤ 1000000) (hbase : base ≤ w.heap.size)
    (h : ∀ v' w', Appd w w' base e size v v' (n + m) (xs ++ news) → K (a.put o.dst v') w') : if Region.wanted o (yielded ops a.tmps) = true then Oper.wp P o a w K Q else E := by
  have hw : Region.wanted o (yielded ops a.tmps) = true := by simp [Region.wanted, hgd]
  rw [if_pos hw]
  exact wp_app s x ho hi ht hzs hsz hby hs hown hu hx hl h1 hn hbase h
end
theorem infoB : (Tryz.prog.info? 4).map (fun i => (i.zero, i.size, i.bytes)) = some (some (.bool false), 1, 1) := by kernel_rfl
theorem infoZZ : (Tryz.prog.info? 24).map (fun i => (i.zero, i.size, i.bytes)) = some (some (.slice none 0 0), 1, 24) := by kernel_rfl
end Go.Proofs.YtnjjbaodfjmiaaaGreat
