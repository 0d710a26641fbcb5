/- FuFuse, DfBareC, DfPathsOf, DfKey, put together. -/
import Derived.Test.YtmpjjnjggihojaaGreatDoorDf27
import Derived.Test.YtmpjjnjggihojaaGreatDoorDf26
import Derived.Test.YtmpjjnjggihojaaGreatDoorDf23
import Derived.Deep.RegionLaw
import Derived.Deep.CutRange
import Derived.Test.YtmpjjnjggihojaaGreatDoorDf19
import Derived.Deep.RegionHeld3
import Derived.Test.YtmpjjnjggihojaaGreatDoorDf22
import Derived.Test.YtmpjjnjggihojaaGreatDoorDf16
import Derived.Handy
import Derived.Test.YtmpjjnjggihojaaGreatDoorDf24
import Derived.Test.YtmpjjnjggihojaaGreatDoorShelf
import Derived.Lib.AppendIntMem
import Derived.Lib.ItoaLen
import Derived.Laws.IdiomStrings
/- Tokens as they are read, and the contract of Fuse. -/
namespace Go.Proofs.YtmpjjnjggihojaaGreatDoor
open Go.RowKit Go.Lib Go.Joins
/-- a slice of tokens whose expressions read as these -/
def Toks (C : Nat → Prop) (w : World) (v : Value) (T : List (List Stp)) : Prop := ∃ a cap, v = .slice a T.length cap ∧ T.length ≤ cap ∧ cap ≤ maxLen ∧ (0 < T.length → ∃ b off, a = some ⟨b, off, none⟩ ∧ C b ∧ ∀ i, i < T.length → ∃ u, w.cell? ⟨b, off + i * 3 + 1, none⟩ = some u ∧ SlX C w u (T.getD i []))
theorem Toks.below {C C' : Nat → Prop} {w w' : World} {v : Value} {T : List (List Stp)} (h : Toks C w v T) (hb : ∀ b, C b → C' b ∧ w'.heap[b]? = w.heap[b]?) : Toks C' w' v T := by
  obtain ⟨a, cap, rfl, h1, h2, h3⟩ := h
  refine ⟨a, cap, rfl, h1, h2, fun hp => ?_⟩
  obtain ⟨b, off, e, hC, hc⟩ := h3 hp
  refine ⟨b, off, e, (hb b hC).1, fun i hi => ?_⟩
  obtain ⟨u, hu, hr⟩ := hc i hi
  exact ⟨u, (World.cell?_of_block (a := ⟨b, off + i * 3 + 1, none⟩) (hb b hC).2).trans hu, hr.below hb⟩
theorem Toks.at {C C' : Nat → Prop} {w w' : World} {a : Option Addr} {n c : Nat} {T : List (List Stp)} (h : Toks C w (.slice a n c) T) (hb : ∀ b, C b → C' b ∧ w'.heap[b]? = w.heap[b]?) (i : Nat) (hi : i < T.length) :
    ∃ b off a' c', a = some ⟨b, off, none⟩ ∧ C' b ∧ w'.cell? ⟨b, off + i * 3 + 1, none⟩ = some (.slice a' (T.getD i []).length c') ∧ SlX C' w' (.slice a' (T.getD i []).length c') (T.getD i []) := by
  obtain ⟨a', cap, e, h1, h2, h3⟩ := h.below hb
  simp only [Value.slice.injEq] at e
  obtain ⟨rfl, rfl, rfl⟩ := e
  obtain ⟨b, off, rfl, hC, hc⟩ := h3 (by omega)
  obtain ⟨u, hu, hr⟩ := hc i hi
  obtain ⟨a2, c2, rfl, _⟩ := id hr
  exact ⟨b, off, a2, c2, rfl, hC, hu, hr⟩
/-- the net of the first k tokens -/
def fuseK (T : List (List Stp)) (k : Nat) : NetM := (List.range k).foldl (fun N (i : Nat) => addM N i (T.getD i [])) ⟨[], [], [], [], []⟩
theorem fuseK_more (T : List (List Stp)) (k : Nat) : fuseK T (k + 1) = addM (fuseK T k) k (T.getD k []) := by
  simp [fuseK, List.range_succ]
theorem fuseK_all (T : List (List Stp)) : fuseK T T.length = fuseM T := rfl
/-- few tokens, of few steps -/
structure FewT (T : List (List Stp)) : Prop where
  len : T.length ≤ 12
  each : ∀ i, (T.getD i []).length ≤ 90
  wide : ∀ i, ∀ s ∈ T.getD i [], s.wide
theorem fuseK_len {T : List (List Stp)} (h : FewT T) : ∀ k, k ≤ 12 → (fuseK T k).sets.length ≤ k * 256 ∧ (fuseK T k).of.length ≤ k * 256 ∧ (fuseK T k).last.length ≤ k * 256 ∧ (fuseK T k).fol.length ≤ k * 256 ∧ (fuseK T k).first.length ≤ k * 256
  | 0, _ => by simp [fuseK]
  | k + 1, hk => by
    obtain ⟨h1, h2, h3, h4, h5⟩ := fuseK_len h k (by omega)
    rw [fuseK_more]
    have h6 := setsL_len (T.getD k [])
    have h7 := h.each k
    have h8 := sp_le (prtL (T.getD k [])).first
    simp only [addM, List.length_append, List.length_replicate, List.length_map, List.length_range, mvd_len]
    refine ⟨?_, ?_, ?_, ?_, ?_⟩ <;> omega
/-- a net by value -/
def netV (vs vo vl vf v1 : Value) : Value := .agg #[vs, vo, vl, vf, v1]
/-- what a maker of nets hands back -/
def RetN (w : World) (N : NetM) (e : Ending) (w' : World) : Prop := ∃ vs vo vl vf v1, e = .returned (netV vs vo vl vf v1) ∧ RdNet w'.heap.size w' vs vo vl vf v1 N ∧ Below w.heap.size w w'
theorem five_one {vs vo vl vf v1 : Value} {us : List Value} {w : World} {NB base : Nat} {N : NetM} (h : NetW w NB base vs vo vl vf v1 us N) : (#[vs, vo, vl, vf, v1] : Array Value).all (·.oneCell') = true := by
  obtain ⟨_, _, rfl⟩ := rowS_slice2 h.rowS
  obtain ⟨_, _, rfl⟩ := row_slice h.rowO
  obtain ⟨_, _, rfl⟩ := row_slice h.rowL
  obtain ⟨_, _, rfl⟩ := row_slice h.rowF
  obtain ⟨_, _, rfl⟩ := row_slice h.row1
  simp [Value.oneCell']
theorem ret_net {fn : Func} {R : Ending → World → Prop} {a : Act} {w : World} {B p : Nat} {vs vo vl vf v1 : Value} (h : fn.results = #[.cell p 27]) (hp : a.tmps.getD p undef = .pointer (some ⟨B, 0, none⟩))
    (hd : a.defers = []) (hS : w.heap[B]? = some (.cells #[vs, vo, vl, vf, v1] 27 (0, 0))) (hR : R (.returned (netV vs vo vl vf v1)) w) : bodyPost Tryz.prog fn R .ret a w :=
  bodyPost_ret (results_cell_row h _ w B 27 _ (0, 0) _ hp hS Tryz.underlying27 rfl (by kernel_rfl)) hd hR
/-- a block below, of slices alone, may be written -/
theorem NetW.over {vs vo vl vf v1 : Value} {us : List Value} {w w' : World} {NB base B : Nat} {N : NetM} (h : NetW w NB base vs vo vl vf v1 us N) (hg : w.grownBy w' (some B)) (hB : B < base) (hNB : base ≤ NB) (hc : ∀ j u, w.cell? ⟨B, j, none⟩ = some u → ∃ a n c, u = .slice a n c) : NetW w' NB base vs vo vl vf v1 us N := by
  refine ⟨⟨(hg.block NB h.own.lt (fun e => by simp only [Option.some.injEq] at e; omega)).trans h.own.obj, fun r hr => World.ownsRow.kept (h.own.rows r hr) hg (.inr fun e => ?_), h.own.apart, h.own.out⟩, h.len, fun i hi => ?_⟩
  · have := ((h.own.rows r hr).lt B e).1
    omega
  · obtain ⟨a, cap, e, h1, h2, h3, h4⟩ := h.el i hi
    refine ⟨a, cap, e, h1, h2, h3, fun hp => ?_⟩
    obtain ⟨b, off, e2, hP, hcell⟩ := h4 hp
    have hbB : b ≠ B := by
      rintro rfl
      obtain ⟨_, _, _, e3⟩ := hc _ _ (hcell 0 hp)
      cases e3
    have hh := hg.block b hP.1 (fun e => hbB (by simpa using e))
    exact ⟨b, off, e2, ⟨Nat.lt_of_lt_of_le hP.1 hg.size, hP.2⟩, fun i hi => (World.cell?_of_block (a := ⟨b, off + i, none⟩) hh).trans (hcell i hi)⟩
theorem nil_cells {w : World} {B : Nat} {t : TypeId} (h : w.heap[B]? = some (.cells #[.slice none 0 0, .slice none 0 0, .slice none 0 0, .slice none 0 0, .slice none 0 0] t (0, 0))) : ∀ j u, w.cell? ⟨B, j, none⟩ = some u → ∃ a n c, u = .slice a n c := by
  intro j u hu
  rw [cell_of_row w B j _ _ _ h] at hu
  have hm := Array.mem_of_getElem? hu
  simp at hm
  exact ⟨_, _, _, hm⟩
end Go.Proofs.YtmpjjnjggihojaaGreatDoor

/- Contract of bareOf: a net in which all spots are first, and none follows. -/
namespace Go.Proofs.YtmpjjnjggihojaaGreatDoor
open Go.RowKit Go.Lib Go.Joins

/-- what bareOf hands out -/
def RetBare (w : World) (vs vo vl : Value) (n : Nat) (e : Ending) (w' : World) : Prop :=
  ∃ (BF : Nat) (b1 : Value), e = .returned (netV vs vo vl (.slice (some ⟨BF, 0, none⟩) n n) b1) ∧ w.heap.size ≤ BF ∧ TabAt w' BF 23 n (fun _ => .slice none 0 0) ∧ RowZ w' w.heap.size b1 (spI (List.range n)) ∧ Below w.heap.size w w'
theorem range_more (k : Nat) : spI (List.range (k + 1)) = spI (List.range k) ++ [(k : Int)] := by rw [List.range_succ, spI_more]
/-- a net that is built: its own block, a list of firsts -/
structure BareS (w : World) (c0 : Array Value) (NB BF n k : Nat) (vs vo vl v1 : Value) (wr : World) : Prop where
  obj : wr.heap[NB]? = some (.cells #[vs, vo, vl, .slice (some ⟨BF, 0, none⟩) n n, v1] 27 (0, 0))
  tab : TabAt wr BF 23 n (fun _ => .slice none 0 0)
  row : RowZ wr (w.heap.size + 2) v1 (spI (List.range k))
  out : v1.ownBlock ≠ some NB ∧ v1.ownBlock ≠ some BF
  lo : NB ≠ BF ∧ w.heap.size + 2 ≤ NB ∧ w.heap.size + 2 ≤ BF
  par : wr.heap[w.heap.size]? = some (.cells c0 27 (0, 0))
  res : wr.heap[w.heap.size + 1]? = some (.cells #[.slice none 0 0, .slice none 0 0, .slice none 0 0, .slice none 0 0, .slice none 0 0] 27 (0, 0))
  below : Below w.heap.size w wr
  size : w.heap.size + 2 ≤ wr.heap.size
section
variable {w W2 : World} {c0 : Array Value} {n : Nat} {vs vo vl : Value}
theorem bare_first1 (hs : W2.heap.size = w.heap.size + 2) (hb : Below w.heap.size w W2) (h0 : W2.heap[w.heap.size]? = some (.cells c0 27 (0, 0)))
    (h1 : W2.heap[w.heap.size + 1]? = some (.cells #[.slice none 0 0, .slice none 0 0, .slice none 0 0, .slice none 0 0, .slice none 0 0] 27 (0, 0))) {NB BF : Nat} (e1 : NB = w.heap.size + 3) (e2 : BF = w.heap.size + 2) :
    BareS w c0 NB BF n 0 vs vo vl (.slice none 0 0) ((W2.alloc (.cells (madeCells #[Value.slice none 0 0] n) 23)).alloc (.cells #[vs, vo, vl, .slice (some ⟨BF, 0, none⟩) n n, .slice none 0 0] 27)).drew := by
  subst e1 e2
  have ht := TabAt.mk W2 23 n (.slice none 0 0)
  have hn := heap_alloc_new (W2.alloc (.cells (madeCells #[Value.slice none 0 0] n) 23)) (.cells #[vs, vo, vl, .slice (some ⟨w.heap.size + 2, 0, none⟩) n n, .slice none 0 0] 27)
  rw [show (W2.alloc (.cells (madeCells #[Value.slice none 0 0] n) 23)).heap.size = w.heap.size + 3 by simp [hs]] at hn
  rw [hs] at ht
  have hk : ∀ k, k < w.heap.size + 2 → ((W2.alloc (.cells (madeCells #[Value.slice none 0 0] n) 23)).alloc (.cells #[vs, vo, vl, .slice (some ⟨w.heap.size + 2, 0, none⟩) n n, .slice none 0 0] 27)).heap[k]? = W2.heap[k]? := fun k hk => (heap_alloc_old _ _ (by simp [hs]; omega)).trans (heap_alloc_old _ _ (by omega))
  exact ⟨hn, ht.alloc _, by rw [show List.range 0 = [] from rfl, spI_nil]; exact RowZ.nil _ _, ⟨by simp [Value.ownBlock], by simp [Value.ownBlock]⟩, ⟨by omega, by omega, by omega⟩, (hk _ (by omega)).trans h0, (hk _ (by omega)).trans h1, ((hb.alloc (by omega) _).alloc (by simp [hs]; omega) _).drew, by show _ ≤ (World.alloc _ _).heap.size; simp [hs]⟩
theorem bare_first2 (hs : W2.heap.size = w.heap.size + 2) (hb : Below w.heap.size w W2) (h0 : W2.heap[w.heap.size]? = some (.cells c0 27 (0, 0)))
    (h1 : W2.heap[w.heap.size + 1]? = some (.cells #[.slice none 0 0, .slice none 0 0, .slice none 0 0, .slice none 0 0, .slice none 0 0] 27 (0, 0))) {NB BF : Nat} (e1 : NB = w.heap.size + 2) (e2 : BF = w.heap.size + 3) :
    BareS w c0 NB BF n 0 vs vo vl (.slice none 0 0) ((W2.alloc (.cells #[vs, vo, vl, .slice (some ⟨BF, 0, none⟩) n n, .slice none 0 0] 27)).alloc (.cells (madeCells #[Value.slice none 0 0] n) 23)).drew := by
  subst e1 e2
  have hn := heap_alloc_new W2 (.cells #[vs, vo, vl, .slice (some ⟨w.heap.size + 3, 0, none⟩) n n, .slice none 0 0] 27)
  have ht := TabAt.mk (W2.alloc (.cells #[vs, vo, vl, .slice (some ⟨w.heap.size + 3, 0, none⟩) n n, .slice none 0 0] 27)) 23 n (.slice none 0 0)
  rw [show (W2.alloc (.cells #[vs, vo, vl, .slice (some ⟨w.heap.size + 3, 0, none⟩) n n, .slice none 0 0] 27)).heap.size = w.heap.size + 3 by simp [hs]] at ht
  rw [hs] at hn
  have hk : ∀ k, k < w.heap.size + 2 → ((W2.alloc (.cells #[vs, vo, vl, .slice (some ⟨w.heap.size + 3, 0, none⟩) n n, .slice none 0 0] 27)).alloc (.cells (madeCells #[Value.slice none 0 0] n) 23)).heap[k]? = W2.heap[k]? := fun k hk => (heap_alloc_old _ _ (by simp [hs]; omega)).trans (heap_alloc_old _ _ (by omega))
  exact ⟨(heap_alloc_old _ _ (by simp [hs])).trans hn, ht, by rw [show List.range 0 = [] from rfl, spI_nil]; exact RowZ.nil _ _, ⟨by simp [Value.ownBlock], by simp [Value.ownBlock]⟩, ⟨by omega, by omega, by omega⟩, (hk _ (by omega)).trans h0, (hk _ (by omega)).trans h1, ((hb.alloc (by omega) _).alloc (by simp [hs]; omega) _).drew, by show _ ≤ (World.alloc _ _).heap.size; simp [hs]⟩
end
theorem BareS.cells {w wr : World} {c0 : Array Value} {NB BF n k : Nat} {vs vo vl v1 : Value} (h : BareS w c0 NB BF n k vs vo vl v1 wr) : wr.cell? ⟨NB, 0, none⟩ = some vs ∧ wr.cell? ⟨NB, 1, none⟩ = some vo ∧ wr.cell? ⟨NB, 2, none⟩ = some vl ∧ wr.cell? ⟨NB, 3, none⟩ = some (.slice (some ⟨BF, 0, none⟩) n n) ∧ wr.cell? ⟨NB, 4, none⟩ = some v1 :=
  ⟨cell_of_row _ _ 0 _ _ _ h.obj, cell_of_row _ _ 1 _ _ _ h.obj, cell_of_row _ _ 2 _ _ _ h.obj, cell_of_row _ _ 3 _ _ _ h.obj, cell_of_row _ _ 4 _ _ _ h.obj⟩
theorem BareS.put {w wr w' : World} {c0 : Array Value} {NB BF n k : Nat} {vs vo vl v1 v' : Value} (h : BareS w c0 NB BF n k vs vo vl v1 wr) (hA : Appd wr w' (w.heap.size + 2) 3 1 v1 v' ((spI (List.range k)).length + 1) ((spI (List.range k)).map iV ++ [iV (k : Int)])) :
    BareS w c0 NB BF n (k + 1) vs vo vl v' (w'.setCell ⟨NB, 4, none⟩ v') := by
  have hlt : NB < wr.heap.size := (Array.getElem?_eq_some_iff.1 h.obj).1
  have hat := hA.at
  have hrow : RowZ w' (w.heap.size + 2) v' (spI (List.range (k + 1))) := by
    have := hA.own
    rw [range_more]
    unfold RowZ
    rw [List.length_append, List.map_append]
    exact this
  have hout : v'.ownBlock ≠ some NB ∧ v'.ownBlock ≠ some BF := by
    constructor
    · intro e
      rcases hat _ e with e2 | e2
      · exact h.out.1 e2
      · omega
    · intro e
      rcases hat _ e with e2 | e2
      · exact h.out.2 e2
      · have := h.tab.lt; omega
  have hk : ∀ k, k < w.heap.size + 2 → (w'.setCell ⟨NB, 4, none⟩ v').heap[k]? = wr.heap[k]? := fun k hk => (heap_setCell_other _ _ _ _ (fun e => by have h5 : k = NB := e; have := h.lo.2.1; omega)).trans (hA.grown.block k (by have := h.size; omega) fun e => by have := (h.row.lt k e.symm).1; omega)
  refine ⟨?_, (h.tab.grown hA.grown h.out.2).other _ (Ne.symm h.lo.1), World.ownsRow.kept hrow ⟨rfl, rfl, rfl, by simp, fun k _ hne => heap_setCell_other _ _ _ _ fun e => hne (by rw [e])⟩ (.inr hout.1), hout, h.lo, (hk _ (by omega)).trans h.par, (hk _ (by omega)).trans h.res, (h.below.grown hA.grown h.below.size fun k e => by have := (h.row.lt k e).1; omega).setCell (show w.heap.size ≤ NB by have := h.lo.2.1; omega) _, by simpa using Nat.le_trans h.size hA.grown.size⟩
  rw [heap_setCell_same _ _ _ _ _ _ ((hA.grown.block NB hlt (Ne.symm h.out.1)).trans h.obj)]
  rfl
set_option maxHeartbeats 8000000 in
set_option maxRecDepth 100000 in
theorem bareOf_calls {w : World} {sa : Option Addr} {cs no nl nf n1 co cl cf c1 : Nat} {ao al af a1 : Option Addr} {n : Nat} (hn : n ≤ 900) :
    Calls Tryz.prog 71 #[.agg #[.slice sa n cs, .slice ao no co, .slice al nl cl, .slice af nf cf, .slice a1 n1 c1]] w (RetBare w (.slice sa n cs) (.slice ao no co) (.slice al nl cl) n) := by
  obtain ⟨i1, hj, hy0, hy1, hy2⟩ := info_parts infoZ1
  have hmk : ∀ W, (Instr.makeSlice 25 (.int .i64 ((n : Nat) : Int)) (.int .i64 ((n : Nat) : Int))).run Tryz.prog W = .ok (.slice (some ⟨W.heap.size, 0, none⟩) n n) (W.alloc (.cells (madeCells #[Value.slice none 0 0] n) 23)) := fun W => by
    have := run_make (P := Tryz.prog) W 25 23 i1 _ Tryz.underlying25 hj hy0 .i64 .i64 (n : Int) (n : Int) (by omega) (by omega) (by rw [hy2]; omega) (by omega)
    simpa [hy1, Value.cells] using this
  clear hj hy0 hy1 hy2
  have h0 := heap_alloc_new w (.cells #[.slice sa n cs, .slice ao no co, .slice al nl cl, .slice af nf cf, .slice a1 n1 c1] 27)
  have h1 := heap_alloc_new (w.alloc (.cells #[.slice sa n cs, .slice ao no co, .slice al nl cl, .slice af nf cf, .slice a1 n1 c1] 27)) (.cells #[.slice none 0 0, .slice none 0 0, .slice none 0 0, .slice none 0 0, .slice none 0 0] 27)
  rw [show (w.alloc (.cells #[.slice sa n cs, .slice ao no co, .slice al nl cl, .slice af nf cf, .slice a1 n1 c1] 27)).heap.size = w.heap.size + 1 by simp] at h1
  have H0 := hidden ((heap_alloc_old (w.alloc (.cells #[.slice sa n cs, .slice ao no co, .slice al nl cl, .slice af nf cf, .slice a1 n1 c1] 27)) (.cells #[.slice none 0 0, .slice none 0 0, .slice none 0 0, .slice none 0 0, .slice none 0 0] 27) (by simp)).trans h0)
  have H1 := hidden h1
  have HB := hidden (((Below.refl w.heap.size w).alloc (Nat.le_refl _) (.cells #[.slice sa n cs, .slice ao no co, .slice al nl cl, .slice af nf cf, .slice a1 n1 c1] 27)).alloc (by simp) (.cells #[.slice none 0 0, .slice none 0 0, .slice none 0 0, .slice none 0 0, .slice none 0 0] 27))
  have HZ := hidden (show ((w.alloc (.cells #[.slice sa n cs, .slice ao no co, .slice al nl cl, .slice af nf cf, .slice a1 n1 c1] 27)).alloc (.cells #[.slice none 0 0, .slice none 0 0, .slice none 0 0, .slice none 0 0, .slice none 0 0] 27)).heap.size = w.heap.size + 2 by simp)
  clear h0 h1
  go_enter Tryz.func71, Tryz.ntmps71
  go_wp2_with fail
  go_cut [3] from 5 to 15 (fun v3 wx => ∃ NB BF, v3 = .pointer (some ⟨NB, 0, none⟩) ∧ BareS w #[.slice sa n cs, .slice ao no co, .slice al nl cl, .slice af nf cf, .slice a1 n1 c1] NB BF n 0 (.slice sa n cs) (.slice ao no co) (.slice al nl cl) (.slice none 0 0) wx)
  case first =>
    go_region
    all_goals (try go_wp2_with fail)
    all_goals go_meet
    · exact ⟨_, _, rfl, bare_first1 HZ.out HB.out H0.out H1.out rfl rfl⟩
    · exact ⟨_, _, rfl, bare_first2 HZ.out HB.out H0.out H1.out rfl rfl⟩
  case rest =>
    clear H0 H1 HB HZ hmk
    obtain ⟨NB, BF, rfl, hS⟩ := hcut
    have HS := hidden hS
    have p0 := cell_of_row _ _ 0 _ _ _ hS.par
    simp at p0
    clear hS
    go_wp2
    go_loopw [19] (fun i wr => ∃ (k : Nat) (v1 : Value), k ≤ n ∧ i = .int .i64 k ∧ BareS w #[.slice sa n cs, .slice ao no co, .slice al nl cl, .slice af nf cf, .slice a1 n1 c1] NB BF n k (.slice sa n cs) (.slice ao no co) (.slice al nl cl) v1 wr) (fun i _ => n - (Go.RowKit.intOf i).toNat)
    case atStart => exact ⟨0, _, by omega, rfl, HS.out⟩
    case round =>
      clear HS p0
      obtain ⟨k, v1, hk, rfl, hS⟩ := hrel
      have HS := hidden hS
      obtain ⟨av, cv, hv1⟩ := hS.row.form
      have HV1 := hidden hv1
      obtain ⟨m0, m1, m2, m3, m4⟩ := hS.cells
      have hl := spI_len (List.range k)
      rw [List.length_range] at hl
      have HL := hidden hl
      rw [hl] at hv1
      rw [hv1] at m4
      clear hS
      by_cases hlt : k < n
      · have ef := frozen_of_row _ _ 4 _ _ HS.out.obj
        have hal : Below wr.heap.size wr (wr.alloc (.cells #[.int .i64 (k : Int)] 3)) := (Below.refl wr.heap.size wr).alloc (Nat.le_refl _) _
        have hown := row_below HS.out.row hal
        rw [hl, hv1] at hown
        have HOW := hidden hown
        have HSA := hidden (show BareS w #[.slice sa n cs, .slice ao no co, .slice al nl cl, .slice af nf cf, .slice a1 n1 c1] NB BF n k (.slice sa n cs) (.slice ao no co) (.slice al nl cl) v1 (wr.alloc (.cells #[.int .i64 (k : Int)] 3)) from
          ⟨(hal.block _ (Array.getElem?_eq_some_iff.1 HS.out.obj).1).trans HS.out.obj, HS.out.tab.alloc _, row_below HS.out.row hal, HS.out.out, HS.out.lo, (hal.block _ (by have := HS.out.size; omega)).trans HS.out.par, (hal.block _ (by have := HS.out.size; omega)).trans HS.out.res, below_then HS.out.below HS.out.below.size hal, Nat.le_trans HS.out.size hal.size⟩)
        have HLN9 := hidden (show k + 1 ≤ 1000000 by omega)
        have HBS := hidden HSA.out.size
        have HI := hidden infoInt
        have HV2 := hidden hv1
        have HOUT := hidden HS.out.out
        clear hal hown hl hv1
        go_wp2_with (at_builtin; refine wpList_app (v := .slice av k cv) rfl _ _ rfl HI.out Tryz.underlying23 rfl (by decide) (by decide) rfl HOW.out rfl (Src.one wr (.int .i64 (k : Int)) 3 _ rfl) (by simp) (by simp [Value.oneCell']) HLN9.out HBS.out ?_; intro v9 w9 hA9; have HA9 := hidden hA9; have hob := HOUT.out; rw [HV2.out] at hob; have hg9 := (hA9.grown.block NB (Array.getElem?_eq_some_iff.1 HSA.out.obj).1 (Ne.symm hob.1)).trans HSA.out.obj; have g0 := cell_of_row _ _ 4 _ _ _ hg9; have g1 := frozen_of_row _ _ 4 _ _ hg9; simp at g0; obtain ⟨a9, c9, hv9⟩ := row_slice14 hA9.own; subst hv9; clear hA9 hob hg9)
        go_roundw
        case rel =>
          refine ⟨k + 1, _, by omega, by go_num, HSA.out.put ?_⟩
          rw [HL.out, HV2.out]
          exact HA9.out
        case measure => simp [Go.RowKit.intOf]; omega
      · obtain rfl : k = n := by omega
        have HV2 := hidden hv1
        clear hl hv1
        have H5 := hidden (show (#[.slice sa k cs, .slice ao no co, .slice al nl cl, .slice (some ⟨BF, 0, none⟩) k k, v1] : Array Value).all (·.oneCell') = true by rw [HV2.out]; simp [Value.oneCell'])
        have HRES := hidden HS.out.res
        have HOBJ := hidden HS.out.obj
        clear m0 m1 m2 m3 m4
        go_wp2_with (first
          | (refine wpList_load_row rfl 27 (.tmp 3) rfl NB rfl 27 #[.slice sa k cs, .slice ao no co, .slice al nl cl, .slice (some ⟨BF, 0, none⟩) k k, v1] (0, 0) _ HOBJ.out Tryz.underlying27 rfl (by kernel_rfl) ?_)
          | (refine store_row (B := w.heap.size + 1) (cs := #[.slice sa k cs, .slice ao no co, .slice al nl cl, .slice (some ⟨BF, 0, none⟩) k k, v1]) (old := #[.slice none 0 0, .slice none 0 0, .slice none 0 0, .slice none 0 0, .slice none 0 0]) (t := 27) rfl (ty := 27) (x := .tmp 2) (y := .tmp 29) rfl rfl rfl HRES.out 5 (by kernel_rfl) rfl rfl H5.out ?_; intro w2 hw2 hg2; have HL2 := hidden hw2; have HG2 := hidden hg2; clear hw2 hg2))
        have HO := HS.out
        refine ret_net Tryz.results71 rfl rfl HL2.out ⟨BF, v1, rfl, by have := HO.lo.2.2; omega, HO.tab.grown HG2.out (by have := HO.lo.2.2; simp only [ne_eq, Option.some.injEq]; omega), ?_, HO.below.grown HG2.out HO.below.size (fun j e => by simp only [Option.some.injEq] at e; omega)⟩
        exact row_mono (World.ownsRow.kept HO.row HG2.out (.inr fun e => by have := (HO.row.lt _ e).1; omega)) (by omega)
end Go.Proofs.YtmpjjnjggihojaaGreatDoor

/- Contract of pathsOf: a net made ready for being followed. -/
namespace Go.Proofs.YtmpjjnjggihojaaGreatDoor
open Go.RowKit Go.Lib Go.Joins

theorem infoZ8 : (Tryz.prog.info? 59).map (fun i => (i.zero, i.size, i.bytes)) = some (some (.slice none 0 0), 1, 24) := by kernel_rfl
theorem infoI1 : (Tryz.prog.info? 3).map (fun i => (i.zero, i.size, i.bytes)) = some (some (.int .i64 0), 1, 8) := by kernel_rfl
/-- the object when no class has been met -/
structure PathN (w : World) (P CB BF SB : Nat) (vs vo vl vf v1 b1 : Value) (n W : Nat) (w0 wx : World) : Prop where
  obj : wx.heap[P]? = some (.cells #[vs, vo, vl, vf, v1, vs, vo, vl, .slice (some ⟨BF, 0, none⟩) n n, b1, .slice (some ⟨CB, 0, none⟩) n n, .int .i64 W, .slice (some ⟨SB, 0, none⟩) n n] 90 (0, 0))
  bare : TabAt wx BF 23 n (fun _ => .slice none 0 0)
  first : RowZ wx (w.heap.size + 2) b1 (spI (List.range n))
  cls : TabAt wx CB 59 n (fun _ => .slice none 0 0)
  seen : SeenAt wx SB n (fun _ => 0)
  out : b1.ownBlock ≠ some SB ∧ b1.ownBlock ≠ some CB
  lo : w.heap.size + 2 ≤ P ∧ w.heap.size + 2 ≤ BF ∧ w.heap.size + 2 ≤ CB ∧ w.heap.size + 2 ≤ SB
  below : Below (w.heap.size + 2) w0 wx
theorem pathN_of {w w0 Wc wA wF : World} {P CB BF SB : Nat} {vs vo vl vf v1 b1 : Value} {n W : Nat} (hz : w0.heap.size = w.heap.size + 2) (h0 : Below (w.heap.size + 2) w0 Wc) (hA : Wc.heap.size ≤ BF ∧ TabAt wA BF 23 n (fun _ => .slice none 0 0) ∧ RowZ wA Wc.heap.size b1 (spI (List.range n)) ∧ Below Wc.heap.size Wc wA)
    (hF : Below wA.heap.size wA wF) (hobj : wF.heap[P]? = some (.cells #[vs, vo, vl, vf, v1, vs, vo, vl, .slice (some ⟨BF, 0, none⟩) n n, b1, .slice (some ⟨CB, 0, none⟩) n n, .int .i64 W, .slice (some ⟨SB, 0, none⟩) n n] 90 (0, 0)))
    (hC : TabAt wF CB 59 n (fun _ => .slice none 0 0)) (hS : TabAt wF SB 3 n (fun _ => .int .i64 0)) (hSB : (w.heap.size + 2 ≤ SB ∧ SB < Wc.heap.size) ∨ wA.heap.size ≤ SB) (hCB : (w.heap.size + 2 ≤ CB ∧ CB < Wc.heap.size) ∨ wA.heap.size ≤ CB) (hP : wA.heap.size ≤ P) : PathN w P CB BF SB vs vo vl vf v1 b1 n W w0 wF := by
  obtain ⟨a1, a2, a3, a4⟩ := hA
  have s1 := h0.size
  have s2 := a4.size
  refine ⟨hobj, a2.below hF, row_mono (row_below a3 hF) (by omega), hC, hS, ⟨fun e => ?_, fun e => ?_⟩, ⟨by omega, by omega, by omega, by omega⟩, below_then (below_then h0 (by omega) a4) (by omega) hF⟩
  · have := a3.lt _ e
    omega
  · have := a3.lt _ e
    omega
/-- the table of classes while it is filled: rows of the call's own -/
def ClsS (w6 : World) (CB n : Nat) (us : Nat → Value) (L : Nat → List Nat) (wr : World) : Prop :=
  OwnR wr (fun k => k = CB) w6.heap.size (rowsN 5 byC n us L) ∧ TabAt wr CB 59 n us ∧ But w6.heap.size (fun k => k = CB) w6 wr
theorem ClsS.start {w6 : World} {CB n : Nat} (h : TabAt w6 CB 59 n (fun _ => .slice none 0 0)) {L : Nat → List Nat} (hL : ∀ c, c < n → L c = []) : ClsS w6 CB n (fun _ => .slice none 0 0) L w6 := by
  refine ⟨⟨fun r hr => ?_, ?_, fun r hr k hk => ?_, fun k hk => by subst hk; exact h.lt⟩, h, But.refl _ _ _⟩
  · unfold rowsN at hr
    obtain ⟨i, hi, rfl⟩ := List.mem_map.1 hr
    simp only [hL i (List.mem_range.1 hi)]
    exact World.ownsRow_nil _ _ _ _
  · unfold rowsN
    rw [List.pairwise_map]
    exact List.pairwise_lt_range.imp fun _ => .inl rfl
  · unfold rowsN at hr
    obtain ⟨i, _, rfl⟩ := List.mem_map.1 hr
    cases hk
theorem ClsS.row {w6 wr : World} {CB n : Nat} {us : Nat → Value} {L : Nat → List Nat} (h : ClsS w6 CB n us L wr) {c : Nat} (hc : c < n) : wr.ownsRow w6.heap.size 5 1 (us c) (L c).length ((L c).map byC) := h.1.rows _ (rowsN_mem hc)
theorem ClsS.kept {w6 wr w' : World} {CB n : Nat} {us : Nat → Value} {L : Nat → List Nat} (h : ClsS w6 CB n us L wr) (hb : Below wr.heap.size wr w') : ClsS w6 CB n us L w' :=
  ⟨h.1.kept hb, h.2.1.below hb, h.2.2.below h.2.2.size hb⟩
theorem ClsS.congr {w6 wr : World} {CB n : Nat} {us : Nat → Value} {L L' : Nat → List Nat} (h : ClsS w6 CB n us L wr) (hL : ∀ c, c < n → L c = L' c) : ClsS w6 CB n us L' wr := by
  unfold ClsS at *
  rw [rowsN_congr (t := 5) (f := byC) (us := us) hL] at h
  exact h
theorem ClsS.put {w6 wr w' : World} {CB n : Nat} {us : Nat → Value} {L L' : Nat → List Nat} (h : ClsS w6 CB n us L wr) {c : Nat} (hc : c < n) {v' : Value} {x : Nat} (hA : Appd wr w' w6.heap.size 5 1 (us c) v' ((L c).length + 1) ((L c).map byC ++ [byC x]))
    (hL : ∀ j, L' j = if j = c then L c ++ [x] else L j) : ClsS w6 CB n (upd us c v') L' (w'.setCell ⟨CB, c, none⟩ v') := by
  have hm := rowsN_get (t := 5) (f := byC) (us := us) (L := L) hc
  have hl : c < (rowsN 5 byC n us L).length := by rw [rowsN_len]; exact hc
  have hg := h.1.grow c hl ⟨5, 1, v', (L c ++ [x]).length, (L c ++ [x]).map byC⟩ (by rw [hm]; exact hA.grown) (by
    have := hA.own
    unfold R5.at
    simpa using this) (fun k hk => by rw [hm]; exact hA.at k hk)
  rw [rowsN_set v' (L c ++ [x]) hL] at hg
  have hob : (us c).ownBlock ≠ some CB := fun e => h.1.out _ (rowsN_mem hc) _ e rfl
  exact ⟨hg.store rfl c v', (h.2.1.grown hA.grown hob).store c v', (h.2.2.grown hA.grown (fun k e => .inr (h.1.lt (rowsN_mem hc) e).1) h.2.2.size).store (.inl rfl) c v'⟩
theorem ClsS.stay {w6 wr w' : World} {CB n : Nat} {us : Nat → Value} {L L' : Nat → List Nat} {c : Nat} (hc : c < n) {v' : Value} {x : Nat} (hA : Appd wr w' w6.heap.size 5 1 (us c) v' ((L c).length + 1) ((L c).map byC ++ [byC x]))
    (hL : ∀ j, L' j = if j = c then L c ++ [x] else L j) : StayR (fun k => k = CB) wr (rowsN 5 byC n us L) (w'.setCell ⟨CB, c, none⟩ v') (rowsN 5 byC n (upd us c v') L') := by
  have hm := rowsN_get (t := 5) (f := byC) (us := us) (L := L) hc
  have hl : c < (rowsN 5 byC n us L).length := by rw [rowsN_len]; exact hc
  have hg := StayR.grow (X := fun k => k = CB) c hl ⟨5, 1, v', (L c ++ [x]).length, (L c ++ [x]).map byC⟩ (by rw [hm]; exact hA.grown) (fun k hk => by rw [hm]; exact hA.at k hk)
  rw [rowsN_set v' (L c ++ [x]) hL] at hg
  exact hg.trans (StayR.store (X := fun k => k = CB) (B := CB) rfl c v')
/-- what a round reads behind its append -/
theorem after_app {w6 wr w' : World} {CB n P : Nat} {us : Nat → Value} {L : Nat → List Nat} {e : TypeId} {sz m c : Nat} {v v' : Value} {xs : List Value} {cs : Array Value} (hA : Appd wr w' w6.heap.size e sz v v' m xs) (h : ClsS w6 CB n us L wr) (hc : c < n) (hP : wr.heap[P]? = some (.cells cs 90 (0, 0))) (hu : us c = v) (hPl : P < w6.heap.size) :
    w'.heap[P]? = some (.cells cs 90 (0, 0)) ∧ w'.cell? ⟨CB, c, none⟩ = some v ∧ w'.frozen? ⟨CB, c, none⟩ = false := by
  subst hu
  have hob : (us c).ownBlock ≠ some CB := fun e => h.1.out _ (rowsN_mem hc) _ e rfl
  have ht := h.2.1.grown hA.grown hob
  exact ⟨(hA.grown.block P (Array.getElem?_eq_some_iff.1 hP).1 fun e => by have := (h.1.lt (rowsN_mem hc) e.symm).1; omega).trans hP, ht.cell hc, ht.frozen c⟩
/-- the far blocks -/
def GP (e0 : Nat) (w w' : World) (SB : Nat) (k : Nat) : Prop := (k < e0 ∨ w.heap.size ≤ k) ∧ k < w'.heap.size ∧ k ≠ SB
/-- what pathsOf hands out -/
def RetPaths (e0 : Nat) (w : World) (vs vo vl vf v1 : Value) (N : NetM) (e : Ending) (w' : World) : Prop :=
  ∃ P CB BF SB b1 us, e = .returned (.pointer (some ⟨P, 0, none⟩)) ∧ PathR (GP e0 w w' SB) e0 w' P CB BF SB vs vo vl vf v1 b1 us (fun q => clsU N q (widN N)) N ∧ SeenAt w' SB N.sets.length (fun _ => 0) ∧ w.heap.size ≤ SB ∧ Below w.heap.size w w'
theorem retPaths_of {e0 : Nat} {w w0 w6 wr : World} {P CB BF SB : Nat} {vs vo vl vf v1 b1 : Value} {us : Nat → Value} {N : NetM} (he : e0 ≤ w.heap.size) (hz : Below w.heap.size w w0) (hn : RdNet e0 w vs vo vl vf v1 N) (hP : PathN w P CB BF SB vs vo vl vf v1 b1 N.sets.length (widN N) w0 w6) (hC : ClsS w6 CB N.sets.length us (fun q => clsU N q (widN N)) wr) :
    RetPaths e0 w vs vo vl vf v1 N (.returned (.pointer (some ⟨P, 0, none⟩))) wr := by
  have hsz := hC.2.2.size
  have n1 : P ≠ CB := type_ne hP.obj hP.cls (by decide)
  have n2 : BF ≠ CB := type_ne hP.bare hP.cls (by decide)
  have n3 : SB ≠ CB := type_ne hP.seen hP.cls (by decide)
  have n4 : P ≠ SB := type_ne hP.obj hP.seen (by decide)
  have n5 : BF ≠ SB := type_ne hP.bare hP.seen (by decide)
  have hPl : P < w6.heap.size := (Array.getElem?_eq_some_iff.1 hP.obj).1
  have k0 := fun k (hk : k < w6.heap.size) (hne : k ≠ CB) => hC.2.2.block k hk hne
  have hbl : Below (w.heap.size + 2) w0 wr := hP.below.trans (hC.2.2.under (by have := hP.below.size; have := hP.lo.1; omega) fun k e => by subst e; exact hP.lo.2.2.1)
  have hb : Below w.heap.size w wr := hz.trans (hbl.mono (by omega))
  refine ⟨P, CB, BF, SB, b1, us, rfl, ⟨(k0 P hPl n1).trans hP.obj, hn.below (hb.mono he) (Nat.le_refl _), hP.bare.at (k0 BF hP.bare.lt n2), (own_elR hP.first).mono fun k hk => ?_, hC.2.1, fun q hq => (own_elB (hC.row hq)).mono fun k hk => ⟨?_, rfl⟩, ⟨?_, ?_, ?_, fun h => h.2.2 rfl⟩, fun k hk => ?_⟩, hP.seen.at (k0 SB hP.seen.lt n3), by have := hP.lo.2.2.2; omega, hb⟩
  · have h1 := hP.first.lt k hk
    have e1 : k ≠ SB := fun e => hP.out.1 (e ▸ hk)
    have e2 : k ≠ CB := fun e => hP.out.2 (e ▸ hk)
    exact ⟨⟨.inr (by omega), by omega, e1⟩, k0 k h1.2 e2⟩
  · have h1 := hC.1.lt (rowsN_mem hq) hk
    have h2 := hP.seen.lt
    have h3 := hP.lo.1
    exact ⟨.inr (by omega), h1.2, fun e => by omega⟩
  · exact ⟨.inr (by have := hP.lo.1; omega), by omega, n4⟩
  · exact ⟨.inr (by have := hP.lo.2.1; omega), by have := hP.bare.lt; omega, n5⟩
  · exact ⟨.inr (by have := hP.lo.2.2.1; omega), hC.2.1.lt, Ne.symm n3⟩
  · have := hP.lo.2.2.2
    have := hb.size
    exact ⟨.inl hk, by omega, by omega⟩
theorem heap_alloc_at {w : World} {B : Nat} (h : w.heap.size = B) (c : Array Value) (t : TypeId) : (w.alloc (.cells c t)).heap[B]? = some (.cells c t (0, 0)) := by subst h; exact heap_alloc_new w _
theorem held5 {b : Nat} {W0 W : World} {x0 x1 x2 x3 x4 : Value} (h : W0.heap[b]? = some (.cells #[x0, x1, x2, x3, x4] 27 (0, 0))) (hb : Below (b + 2) W0 W) : Below (b + 2) W0 W ∧ W.cell? ⟨b, 0, none⟩ = some x0 ∧ W.cell? ⟨b, 1, none⟩ = some x1 ∧ W.cell? ⟨b, 2, none⟩ = some x2 ∧ W.cell? ⟨b, 3, none⟩ = some x3 ∧ W.cell? ⟨b, 4, none⟩ = some x4 :=
  have h := (hb.block b (by omega)).trans h
  ⟨hb, cell_of_row _ _ 0 _ _ _ h, cell_of_row _ _ 1 _ _ _ h, cell_of_row _ _ 2 _ _ _ h, cell_of_row _ _ 3 _ _ _ h, cell_of_row _ _ 4 _ _ _ h⟩
def RowBy (bb : Nat) (v : Value) (w : World) : Prop := ∃ gb ln cap, v = .slice (some ⟨gb, 0, none⟩) ln cap ∧ 0 < ln ∧ gb < w.heap.size ∧ w.cell? ⟨gb, 0, none⟩ = some (.int .u8 (bb : Int))
def PtrBy (bb : Nat) (v : Value) (w : World) : Prop := ∃ gb, v = .pointer (some ⟨gb, 0, none⟩) ∧ gb < w.heap.size ∧ w.cell? ⟨gb, 0, none⟩ = some (.int .u8 (bb : Int))
def RzS (B m : Nat) (X : List Int) (v : Value) (w : World) : Prop := ∃ a c, v = .slice a m c ∧ ElR (fun k => B ≤ k ∧ k < w.heap.size) w (.slice a m c) X
theorem rowBy_mono (bb : Nat) : ∀ v w w', RowBy bb v w → Below w.heap.size w w' → RowBy bb v w' := fun _ _ _ ⟨gb, ln, cap, e, h1, h2, h3⟩ hb => ⟨gb, ln, cap, e, h1, Nat.lt_of_lt_of_le h2 hb.size, (hb.cell (p := ⟨gb, 0, none⟩) h2).trans h3⟩
theorem ptrBy_mono (bb : Nat) : ∀ v w w', PtrBy bb v w → Below w.heap.size w w' → PtrBy bb v w' := fun _ _ _ ⟨gb, e, h2, h3⟩ hb => ⟨gb, e, Nat.lt_of_lt_of_le h2 hb.size, (hb.cell (p := ⟨gb, 0, none⟩) h2).trans h3⟩
theorem rzS_mono (B m : Nat) (X : List Int) : ∀ v w w', RzS B m X v w → Below w.heap.size w w' → RzS B m X v w' := fun _ _ _ ⟨a, c, e, h⟩ hb => ⟨a, c, e, h.mono fun k hk => ⟨⟨hk.1, Nat.lt_of_lt_of_le hk.2 hb.size⟩, hb.block k hk.2⟩⟩
def L5 (B P c m bb : Nat) (nv av : Value) (X : List Int) : List (Value → World → Prop) := [Rl.Is (.pointer (some ⟨P, 0, none⟩)), Rl.Is (.pointer (some ⟨P, 0, none⟩)), Rl.Is (.pointer (some ⟨P, 5, none⟩)), Rl.Is nv, Rl.Is av, Rl.Is (.int .i64 (c : Nat)), RowBy bb, PtrBy bb, Rl.Is (.int .u8 (bb : Nat)), RzS B m X, Rl.Is (.int .i64 (m : Nat)), Rl.Is (.int .i64 0)]
attribute [local go_sem] Rl.evalR_tmp Rl.evalR_const Rl.evalR_global Rl.evalR_func
set_option maxHeartbeats 8000000 in
set_option maxRecDepth 100000 in
theorem pathsOf_calls {e0 : Nat} {w : World} {vs vo vl vf v1 : Value} {N : NetM} (he : e0 ≤ w.heap.size) (h : RdNet e0 w vs vo vl vf v1 N) (hw : ∀ s ∈ N.sets, s.wide) (hR : rightB N = true) (hn : N.sets.length ≤ 900) :
    Calls Tryz.prog 54 #[.agg #[vs, vo, vl, vf, v1], ar (clsN N), .int .i64 (widN N)] w (RetPaths e0 w vs vo vl vf v1 N) := by
  have HRET := hidden (fun (w0 w6 wr : World) (P CB BF SB : Nat) (b1 : Value) (us : Nat → Value) (hz : Below w.heap.size w w0) (hP : PathN w P CB BF SB vs vo vl vf v1 b1 N.sets.length (widN N) w0 w6) (hC : ClsS w6 CB N.sets.length us (fun q => clsU N q (widN N)) wr) => retPaths_of he hz h hP hC)
  have HST := hidden (fun (W : World) (bf b1 : Value) (c : Nat) (hr : RdNet W.heap.size W vs vo vl bf b1 (bareN N)) (hb : lf (netK N) c < 256) => (show Calls Tryz.prog 72 #[.agg #[vs, vo, vl, bf, b1], .int .u8 (lf (netK N) c : Nat)] W (RetZ W (spI (withC N c))) from by
    have hc := start_calls (b := lf (netK N) c) hr hw (by
      show (spI (List.range N.sets.length)).length ≤ 100000
      rw [spI_len, List.length_range]
      omega) hb
    rwa [bare_startC hR] at hc))
  have HNB := hidden (fun (W : World) (hb : Below e0 w W) (BF : Nat) (b1 : Value) (h1 : TabAt W BF 23 N.sets.length (fun _ => .slice none 0 0)) (G : Nat → Prop) (h2 : ElR G W b1 (spI (List.range N.sets.length))) (h3 : ∀ k, G k → k < W.heap.size) => rd_bare (h.below hb (Nat.le_refl _)) h1 h2 h3 (Nat.le_trans hn (by decide)) (Nat.le_trans he hb.size))
  have HCL := hidden (fun c (hc : c < widN N) => (lf_is (netK N) hc).1)
  have HBY := hidden (fun (W : World) c (hc : c < widN N) => (show Calls Tryz.prog 73 #[ar (clsN N), .int .i64 (c : Int)] W fun e w' => ∃ (gb ln cap : Nat), e = .returned (.slice (some ⟨gb, 0, none⟩) ln cap) ∧ 0 < ln ∧ w'.cell? ⟨gb, 0, none⟩ = some (.int .u8 ((lf (netK N) c : Nat) : Int)) ∧ Below W.heap.size W w' from by
    refine (bytes_calls (clsN N) (c : Int) W (fun j hj => Nat.lt_of_lt_of_le (cls_lt _ hj) (cntK_le _ 256))).mono ?_
    rintro e w7 ⟨v7, rfl, hrow, hb7⟩
    obtain ⟨r, hr⟩ := lst_cons (netK N) (show c < cntK (netK N) 256 from hc)
    rw [show clsN N = clsK (netK N) from rfl, hr, List.map_cons] at hrow
    rcases hrow.2 with ⟨_, h0⟩ | ⟨gb, cap, cur, rfl, _, hgb, _⟩
    · simp at h0
    · refine ⟨gb, _, cap, rfl, by simp, ?_, hb7⟩
      rw [World.ownsRow.cellAt hrow 0 (by simp)]
      rfl))
  have HJ0 := hidden (fun c q => clsJ_zero N c q)
  have HJA := hidden (fun c q (hq : q < N.sets.length) => clsJ_all N c q hq)
  have HJM := hidden (fun c j (hj : j < (withC N c).length) q => (show clsJ N c (j + 1) q = if q = (withC N c).getD j 0 then clsJ N c j q ++ [c] else clsJ N c j q from by
    rw [clsJ_more N c j hj q, List.getD_eq_getElem?_getD, List.getElem?_eq_getElem hj]
    rfl))
  have HJL := hidden (fun c j q => (show (clsJ N c j q).length ≤ c + 1 from by
    have h1 := clsU_len N q c
    unfold clsJ
    split
    · simp; omega
    · omega))
  have HU0 := hidden (fun q => clsU_zero N q)
  have HWN := hidden (fun c j (hj : j < (withC N c).length) => (show (withC N c).getD j 0 < N.sets.length from by
    have h1 : (withC N c).getD j 0 ∈ withC N c := by rw [List.getD_eq_getElem?_getD, List.getElem?_eq_getElem hj]; exact List.getElem_mem _
    exact ((hits_mem _ _ _).1 h1).1))
  have HWL := hidden (fun c => (show (withC N c).length ≤ 900 from Nat.le_trans (hits_len _ _) hn))
  have hwd : widN N ≤ 256 := cntK_le _ 256
  have HHN := hidden hn
  obtain ⟨sa, cs, rfl⟩ := h.sets.form
  obtain ⟨ao, co, rfl⟩ := h.of.form
  obtain ⟨al, cl, rfl⟩ := h.last.form
  obtain ⟨af, cf, rfl⟩ := h.fol.form
  obtain ⟨a1, c1, rfl⟩ := h.first.form
  obtain ⟨n, hnn⟩ : ∃ n, n = N.sets.length := ⟨_, rfl⟩
  obtain ⟨W, hW⟩ : ∃ W, W = widN N := ⟨_, rfl⟩
  obtain ⟨no, hno⟩ : ∃ no, no = N.of.length := ⟨_, rfl⟩
  obtain ⟨nl, hnl⟩ : ∃ nl, nl = N.last.length := ⟨_, rfl⟩
  obtain ⟨nf, hnf⟩ : ∃ nf, nf = N.fol.length := ⟨_, rfl⟩
  obtain ⟨n1, hn1⟩ : ∃ n1, n1 = N.first.length := ⟨_, rfl⟩
  rw [← hnn] at HRET HST HNB HJA HWN hn HHN ⊢
  rw [← hW] at HRET HCL HBY hwd ⊢
  rw [← hno] at HRET HST HNB ⊢
  rw [← hnl] at HRET HST HNB ⊢
  rw [← hnf] at HRET ⊢
  rw [← hn1] at HRET ⊢
  have HE0 := hidden he
  clear h hw hR hnn hW hno hnl hnf hn1 he
  obtain ⟨i1, hj, hy0, hy1, hy2⟩ := info_parts infoZ8
  have hmk : ∀ W, (Instr.makeSlice 88 (.int .i64 ((n : Nat) : Int)) (.int .i64 ((n : Nat) : Int))).run Tryz.prog W = .ok (.slice (some ⟨W.heap.size, 0, none⟩) n n) (W.alloc (.cells (madeCells #[Value.slice none 0 0] n) 59)) := fun W => by
    have := run_make (P := Tryz.prog) W 88 59 i1 _ Tryz.underlying88 hj hy0 .i64 .i64 (n : Int) (n : Int) (by omega) (by omega) (by rw [hy2]; omega) (by omega)
    simpa [hy1, Value.cells] using this
  obtain ⟨i2, hk, hz0, hz1, hz2⟩ := info_parts infoI1
  have hmi : ∀ W, (Instr.makeSlice 23 (.int .i64 ((n : Nat) : Int)) (.int .i64 ((n : Nat) : Int))).run Tryz.prog W = .ok (.slice (some ⟨W.heap.size, 0, none⟩) n n) (W.alloc (.cells (madeCells #[Value.int .i64 0] n) 3)) := fun W => by
    have := run_make (P := Tryz.prog) W 23 3 i2 _ Tryz.underlying23 hk hz0 .i64 .i64 (n : Int) (n : Int) (by omega) (by omega) (by rw [hz2]; omega) (by omega)
    simpa [hz1, Value.cells] using this
  clear hj hy0 hy1 hy2 hk hz0 hz1 hz2
  have hbx := run_box_arr (clsN N)
  go_enter Tryz.func54, Tryz.ntmps54
  go_wp2_with fail
  obtain ⟨W0, hW0⟩ : ∃ W0, W0 = (w.alloc (.cells #[.slice sa n cs, .slice ao no co, .slice al nl cl, .slice af nf cf, .slice a1 n1 c1] 27)).alloc (.cells (cellsN (nV (clsN N))) 30) := ⟨_, rfl⟩
  have HZ0 := hidden (show W0.heap.size = w.heap.size + 2 by rw [hW0]; simp)
  have HBZ := hidden (show Below w.heap.size w W0 by rw [hW0]; exact ((Below.refl _ _).alloc (Nat.le_refl _) _).alloc (by simp) _)
  have HP0 := hidden (show W0.heap[w.heap.size]? = some (.cells #[.slice sa n cs, .slice ao no co, .slice al nl cl, .slice af nf cf, .slice a1 n1 c1] 27 (0, 0)) by
    rw [hW0]
    exact (heap_alloc_old _ _ (by simp)).trans (heap_alloc_new w _))
  have HA0 := hidden (show ArrAt W0 (w.heap.size + 1) 30 (nV (clsN N)) by
    rw [hW0]
    exact ArrAt.newAt (by simp))
  rw [← hW0]
  clear hW0
  go_cut [7] from 11 to 24 (fun v7 wx => ∃ P CB BF SB b1, v7 = .pointer (some ⟨P, 0, none⟩) ∧ PathN w P CB BF SB (.slice sa n cs) (.slice ao no co) (.slice al nl cl) (.slice af nf cf) (.slice a1 n1 c1) b1 n W W0 wx)
  case first =>
    clear HRET HST HNB HCL HBY HJ0 HJA HJM HJL HU0 HWN HWL HBZ HA0 HE0
    go_region_held3 (fun w' => Below (w.heap.size + 2) W0 w' ∧ w'.cell? ⟨w.heap.size, 0, none⟩ = some (.slice sa n cs) ∧ w'.cell? ⟨w.heap.size, 1, none⟩ = some (.slice ao no co) ∧ w'.cell? ⟨w.heap.size, 2, none⟩ = some (.slice al nl cl) ∧ w'.cell? ⟨w.heap.size, 3, none⟩ = some (.slice af nf cf) ∧ w'.cell? ⟨w.heap.size, 4, none⟩ = some (.slice a1 n1 c1))
      (first
        | exact held5 HP0.out ((Below.refl _ _).drew)
        | exact held5 HP0.out HBA.out
        | exact held5 HP0.out (HBA.out.alloc (Nat.le_trans (Nat.le_of_eq HZ0.out.symm) HBA.out.size) _)
        | exact held5 HP0.out ((HBA.out.alloc (Nat.le_trans (Nat.le_of_eq HZ0.out.symm) HBA.out.size) _).alloc (Nat.le_trans (Nat.le_of_eq HZ0.out.symm) (by have := HBA.out.size; simp; omega)) _)
        | exact held5 HP0.out (((HBA.out.alloc (Nat.le_trans (Nat.le_of_eq HZ0.out.symm) HBA.out.size) _).alloc (Nat.le_trans (Nat.le_of_eq HZ0.out.symm) (by have := HBA.out.size; simp; omega)) _).alloc (Nat.le_trans (Nat.le_of_eq HZ0.out.symm) (by have := HBA.out.size; simp; omega)) _)
        | exact held5 HP0.out ((Below.refl _ _).drew.alloc (Nat.le_of_eq HZ0.out.symm) _)
        | exact held5 HP0.out (((Below.refl _ _).drew.alloc (Nat.le_of_eq HZ0.out.symm) _).alloc (Nat.le_trans (Nat.le_of_eq HZ0.out.symm) (by simp)) _))
      (first
        | (go_simp; refine (bareOf_calls HHN.out).mono ?_; rintro e wA ⟨BF, b1, rfl, hA1, hA2, hA3, hA4⟩; have HA := hidden (And.intro hA1 (And.intro hA2 (And.intro hA3 hA4))); have HBA := hidden (show Below (w.heap.size + 2) W0 wA from (by first | exact below_then ((Below.refl _ _).drew) (Nat.le_of_eq HZ0.out.symm) hA4 | exact below_then ((Below.refl _ _).drew.alloc (Nat.le_of_eq HZ0.out.symm) _) (Nat.le_trans (Nat.le_of_eq HZ0.out.symm) (by simp)) hA4 | exact below_then (((Below.refl _ _).drew.alloc (Nat.le_of_eq HZ0.out.symm) _).alloc (Nat.le_trans (Nat.le_of_eq HZ0.out.symm) (by simp)) _) (Nat.le_trans (Nat.le_of_eq HZ0.out.symm) (by simp; omega)) hA4)); unfold netV; clear hA1 hA2 hA3 hA4; dsimp only))
    all_goals (try go_wp2_with fail)
    all_goals go_meet
    all_goals (have hz0 := HZ0.out)
    · exact ⟨_, _, _, _, _, rfl, pathN_of HZ0.out ((Below.refl _ _).drew) HA.out ((((Below.refl _ _).alloc (Nat.le_refl _) _).alloc (by simp) _).alloc (by simp; omega) _) (heap_alloc_at (by simp) _ _) (((TabAt.mk wA _ _ _).alloc _).alloc _) ((TabAt.mkAt (by simp) _ _ _).alloc _) (.inr (by omega)) (.inr (Nat.le_refl _)) (by omega)⟩
    · exact ⟨_, _, _, _, _, rfl, pathN_of HZ0.out ((Below.refl _ _).drew) HA.out ((((Below.refl _ _).alloc (Nat.le_refl _) _).alloc (by simp) _).alloc (by simp; omega) _) (heap_alloc_at (by simp) _ _) ((TabAt.mkAt (by simp) _ _ _).alloc _) (((TabAt.mk wA _ _ _).alloc _).alloc _) (.inr (Nat.le_refl _)) (.inr (by omega)) (by omega)⟩
    · exact ⟨_, _, _, _, _, rfl, pathN_of HZ0.out ((Below.refl _ _).drew.alloc (Nat.le_of_eq HZ0.out.symm) _) HA.out (((Below.refl _ _).alloc (Nat.le_refl _) _).alloc (by simp) _) (heap_alloc_at (by simp) _ _) ((((TabAt.mkAt (w := W0.drew) rfl _ _ _).below HA.out.2.2.2).alloc _).alloc _) ((TabAt.mk wA _ _ _).alloc _) (.inr (Nat.le_refl _)) (.inl ⟨by omega, by simp⟩) (by omega)⟩
    · exact ⟨_, _, _, _, _, rfl, pathN_of HZ0.out (((Below.refl _ _).drew.alloc (Nat.le_of_eq HZ0.out.symm) _).alloc (Nat.le_trans (Nat.le_of_eq HZ0.out.symm) (by simp)) _) HA.out ((Below.refl _ _).alloc (Nat.le_refl _) _) (heap_alloc_at (by simp) _ _) ((((TabAt.mkAt (w := W0.drew) rfl _ _ _).alloc _).below HA.out.2.2.2).alloc _) (((show TabAt ((W0.alloc (.cells (madeCells #[Value.slice none 0 0] n) 59)).alloc (.cells (madeCells #[Value.int .i64 0] n) 3)).drew (W0.heap.size + 1) 3 n (fun _ => .int .i64 0) from TabAt.mkAt (w := W0.alloc (.cells (madeCells #[Value.slice none 0 0] n) 59)) (by simp) _ _ _).below HA.out.2.2.2).alloc _) (.inl ⟨by omega, by simp⟩) (.inl ⟨by omega, by simp; omega⟩) (by omega)⟩
    · exact ⟨_, _, _, _, _, rfl, pathN_of HZ0.out ((Below.refl _ _).drew.alloc (Nat.le_of_eq HZ0.out.symm) _) HA.out (((Below.refl _ _).alloc (Nat.le_refl _) _).alloc (by simp) _) (heap_alloc_at (by simp) _ _) ((TabAt.mk wA _ _ _).alloc _) ((((TabAt.mkAt (w := W0.drew) rfl _ _ _).below HA.out.2.2.2).alloc _).alloc _) (.inl ⟨by omega, by simp⟩) (.inr (Nat.le_refl _)) (by omega)⟩
    · exact ⟨_, _, _, _, _, rfl, pathN_of HZ0.out (((Below.refl _ _).drew.alloc (Nat.le_of_eq HZ0.out.symm) _).alloc (Nat.le_trans (Nat.le_of_eq HZ0.out.symm) (by simp)) _) HA.out ((Below.refl _ _).alloc (Nat.le_refl _) _) (heap_alloc_at (by simp) _ _) (((show TabAt ((W0.alloc (.cells (madeCells #[Value.int .i64 0] n) 3)).alloc (.cells (madeCells #[Value.slice none 0 0] n) 59)).drew (W0.heap.size + 1) 59 n (fun _ => .slice none 0 0) from TabAt.mkAt (w := W0.alloc (.cells (madeCells #[Value.int .i64 0] n) 3)) (by simp) _ _ _).below HA.out.2.2.2).alloc _) ((((TabAt.mkAt (w := W0.drew) rfl _ _ _).alloc _).below HA.out.2.2.2).alloc _) (.inl ⟨by omega, by simp; omega⟩) (.inl ⟨by omega, by simp⟩) (by omega)⟩
  case rest =>
    clear hmk hmi hbx HP0 HHN
    obtain ⟨P, CB, BF, SB, b1, rfl, hP⟩ := hcut
    have HPN := hidden hP
    have HC0 := hidden (ClsS.start hP.cls (L := fun q => clsU N q 0) fun q _ => HU0.out q)
    have HAR := hidden ((HA0.out.under hP.below (by have := HZ0.out; omega)))
    obtain ⟨w6, hw6⟩ : ∃ w6, w6 = wc := ⟨_, rfl⟩
    rw [← hw6] at HPN HC0 HAR
    clear hP HU0
    go_wp2
    rw [← hw6]
    clear hw6
    go_loopw [26] (fun i wr => ∃ (c : Nat) (us : Nat → Value), c ≤ W ∧ i = .int .i64 c ∧ ClsS w6 CB n us (fun q => clsU N q c) wr) (fun i _ => W - (Go.RowKit.intOf i).toNat)
    case atStart => exact ⟨0, _, by omega, rfl, HC0.out⟩
    case round =>
      clear HC0
      obtain ⟨c, us, hc, rfl, hC⟩ := hrel
      have HC := hidden hC
      clear hC
      have HBX := hidden HC.out.2.2
      have hne : P ≠ CB := type_ne HPN.out.obj HPN.out.cls (by decide)
      have HNE := hidden (show P ≠ CB ∧ BF ≠ CB ∧ b1.ownBlock ≠ some CB from ⟨hne, type_ne HPN.out.bare HPN.out.cls (by decide), HPN.out.out.2⟩)
      have HOB := hidden ((HBX.out.block P (Array.getElem?_eq_some_iff.1 HPN.out.obj).1 HNE.out.1).trans HPN.out.obj)
      clear hne
      by_cases hlt : c < W
      · obtain ⟨wo, rfl⟩ : ∃ wo : World, wo = wr := ⟨wr, rfl⟩
        obtain ⟨m, hm⟩ : ∃ m, m = (withC N c).length := ⟨_, rfl⟩
        have HM := hidden hm
        have hm9 : m ≤ 900 := by rw [hm]; exact HWL.out c
        clear hm
        go_wp2_with fail
        go_cut [38, 39, 40] from 29 to 40 (fun v38 v39 v40 wx => ∃ a cc, v38 = .slice a m cc ∧ v39 = .int .i64 m ∧ v40 = .int .i64 0 ∧ ElR (fun k => wo.heap.size ≤ k ∧ k < wx.heap.size) wx (.slice a m cc) (spI (withC N c)) ∧ Below wo.heap.size wo wx)
        case first =>
          have HHB := hidden (fun (W' : World) => HBY.out W' c hlt)
          have HHS := hidden (fun (W' : World) (hb : Below wo.heap.size wo W') => (show Calls Tryz.prog 72 #[.agg #[.slice sa n cs, .slice ao no co, .slice al nl cl, .slice (some ⟨BF, 0, none⟩) n n, b1], .int .u8 ((lf (netK N) c : Nat) : Int)] W' (RetZ W' (spI (withC N c))) from HST.out W' _ b1 c (by
            have hbo : Below w.heap.size w W' := below_then (HBZ.out.trans ((HPN.out.below.mono (by omega)).trans ((HBX.out.under (by have := HPN.out.below.size; have := HZ0.out; omega) fun k e => by subst e; have := HPN.out.lo.2.2.1; omega)))) (by
              have h1 := HPN.out.below.size
              have h2 := HBX.out.size
              have h3 := HZ0.out
              omega) hb
            have hfr : RowZ W' (w.heap.size + 2) b1 (spI (List.range n)) := by
              have hr := HPN.out.first
              have h1 : RowZ wo (w.heap.size + 2) b1 (spI (List.range n)) := World.ownsRow.kept (row := some CB) hr ⟨HBX.out.os, HBX.out.tape, HBX.out.output, HBX.out.size, fun k hk hne => HBX.out.block k hk fun e => hne (by rw [e])⟩ (.inr HNE.out.2.2)
              exact row_below h1 hb
            exact HNB.out W' (hbo.mono HE0.out) BF b1 ((HPN.out.bare.at (HBX.out.block BF HPN.out.bare.lt HNE.out.2.1)).below hb) _ hfr.el fun k hk => hk.2) (HCL.out c hlt)))
          have HRS := hidden (fun (W' : World) (hb : Below wo.heap.size wo W') => (show (W'.cell? ⟨P, 5, none⟩ = some (.slice sa n cs) ∧ W'.cell? ⟨P, 6, none⟩ = some (.slice ao no co) ∧ W'.cell? ⟨P, 7, none⟩ = some (.slice al nl cl) ∧ W'.cell? ⟨P, 8, none⟩ = some (.slice (some ⟨BF, 0, none⟩) n n) ∧ W'.cell? ⟨P, 9, none⟩ = some b1) ∧ ArrAt W' (w.heap.size + 1) 30 (nV (clsN N)) from by
            have ho := (hb.block P (Array.getElem?_eq_some_iff.1 HOB.out).1).trans HOB.out
            have hA : ArrAt wo (w.heap.size + 1) 30 (nV (clsN N)) := (HBX.out.block _ HAR.out.lt (by have := HPN.out.lo.2.2.1; omega)).trans HAR.out
            exact ⟨⟨cell_of_row _ _ 5 _ _ _ ho, cell_of_row _ _ 6 _ _ _ ho, cell_of_row _ _ 7 _ _ _ ho, cell_of_row _ _ 8 _ _ _ ho, cell_of_row _ _ 9 _ _ _ ho⟩, hA.below hb⟩))
          have HX := hidden (show (spI (withC N c)).length = m by rw [spI_len, HM.out])
          obtain ⟨bb, hbb⟩ : ∃ b, b = lf (netK N) c := ⟨_, rfl⟩
          obtain ⟨X, hX⟩ : ∃ X, X = spI (withC N c) := ⟨_, rfl⟩
          rw [← hbb] at HHB HHS
          rw [← hX] at HHS HX
          have HXE := hidden hX
          have HW0 := hidden (below_drawn (Below.refl wo.heap.size wo) 1)
          clear HC HRET HST HNB HCL HBY HJ0 HJA HJM HJL HWN HWL HZ0 HBZ HA0 HE0 HPN HAR HBX HNE HOB hbb hX HM
          refine Rl.wp_region_steps (R := fun w1 w2 => Below w1.heap.size w1 w2) (Rl.typ (L5 wo.heap.size P c m bb (.agg #[.slice sa n cs, .slice ao no co, .slice al nl cl, .slice (some ⟨BF, 0, none⟩) n n, b1]) (ar (clsN N)) X)) (fun w1 => Below wo.heap.size wo w1) (by kernel_rfl) (by kernel_rfl) (by kernel_rfl) (by kernel_rfl) ?mono HW0.out [] (by kernel_rfl) ?guards ?step ?fin
          case mono =>
            refine Rl.typ_mono ?_
            simp only [L5, List.forall_mem_cons]
            repeat' (first | exact Rl.is_mono _ | exact rowBy_mono _ | exact ptrBy_mono _ | exact rzS_mono _ _ _ | (intro p hp; cases hp; done) | refine And.intro ?_ ?_)
          case guards =>
            intro g hg
            cases hg
          case fin =>
            intro a w1 hs hv hW
            have HW := hidden hW
            obtain ⟨a8, c8, h38, h38r⟩ : RzS wo.heap.size m X (a.tmps.getD 38 undef) w1 := hv 9 38 (by kernel_rfl)
            have h39 : a.tmps.getD 39 undef = .int .i64 (m : Nat) := hv 10 39 (by kernel_rfl)
            have h40 : a.tmps.getD 40 undef = .int .i64 0 := hv 11 40 (by kernel_rfl)
            have hd := hs.defers
            have hz := hs.lit [29, 30, 31, 32, 33, 34, 35, 36, 37, 38, 39, 40] (by kernel_rfl)
            have HR := hidden h38r
            clear hs hv hW h38r
            obtain ⟨tm, df⟩ := a
            simp only at hz hd h38 h39 h40
            simp only [List.foldl_cons, List.foldl_nil, List.setIfInBounds_toArray, List.set_cons_zero, List.set_cons_succ] at hz
            rw [h38, h39, h40] at hz
            generalize tm.getD 29 undef = u29 at hz
            generalize tm.getD 30 undef = u30 at hz
            generalize tm.getD 31 undef = u31 at hz
            generalize tm.getD 32 undef = u32 at hz
            generalize tm.getD 33 undef = u33 at hz
            generalize tm.getD 34 undef = u34 at hz
            generalize tm.getD 35 undef = u35 at hz
            generalize tm.getD 36 undef = u36 at hz
            generalize tm.getD 37 undef = u37 at hz
            clear h38 h39 h40
            subst hz hd
            (try go_wp2_with fail)
            go_meet
            rw [HXE.out] at HR
            exact ⟨_, _, rfl, rfl, rfl, HR.out, HW.out⟩
          case step =>
            refine ⟨?_, ?_, ?_, ?_, ?_, ?_, ?_, ?_, ?_, ?_, ?_, ?_, trivial⟩
            · intro ρ w1 hF hW
              have HW := hidden hW
              clear hW
              have e7 : ρ 7 = .pointer (some ⟨P, 0, none⟩) := hF 7 (by decide)
              clear hF
              unfold Rl.Does
              go_simp
              exact ⟨rfl, HW.out, Below.refl _ _⟩
            · intro ρ w1 hF hW
              have HW := hidden hW
              clear hW
              have e29 : ρ 29 = .pointer (some ⟨P, 0, none⟩) := hF 29 (by decide)
              clear hF
              unfold Rl.Does
              go_simp
              exact ⟨rfl, HW.out, Below.refl _ _⟩
            · intro ρ w1 hF hW
              have HW := hidden hW
              clear hW
              have e30 : ρ 30 = .pointer (some ⟨P, 0, none⟩) := hF 30 (by decide)
              clear hF
              unfold Rl.Does
              go_simp
              exact ⟨rfl, HW.out, Below.refl _ _⟩
            · intro ρ w1 hF hW
              have HW := hidden hW
              clear hW
              have e31 : ρ 31 = .pointer (some ⟨P, 5, none⟩) := hF 31 (by decide)
              obtain ⟨k0, k1, k2, k3, k4⟩ := (HRS.out _ HW.out).1
              clear hF
              unfold Rl.Does
              go_simp
              exact ⟨rfl, HW.out, Below.refl _ _⟩
            · change Rl.StepOk _ _ _ _ _ _ _ _
              intro ρ w1 hF hW
              have e4 : ρ 4 = .pointer (some ⟨w.heap.size + 1, 0, none⟩) := hF 4 (by decide)
              exact does_load_arr rfl e4 (HRS.out _ hW).2 ⟨rfl, hW, Below.refl _ _⟩
            · intro ρ w1 hF hW
              have HW := hidden hW
              clear hW
              have e8 : ρ 8 = .int .i64 c := hF 8 (by decide)
              clear hF
              unfold Rl.Does
              go_simp
              exact ⟨rfl, HW.out, Below.refl _ _⟩
            · intro ρ w1 hF hW
              have HW := hidden hW
              clear hW
              have e33 : ρ 33 = ar (clsN N) := hF 33 (by decide)
              have e34 : ρ 34 = .int .i64 c := hF 34 (by decide)
              clear hF
              unfold Rl.Does
              go_simp
              refine (HHB.out _).mono ?_
              rintro e w2 ⟨gb, ln, cap, rfl, hln, hcg, hb⟩
              exact ⟨_, rfl, ⟨gb, ln, cap, rfl, hln, cell_lt hcg, hcg⟩, below_then HW.out HW.out.size hb, hb⟩
            · intro ρ w1 hF hW
              have HW := hidden hW
              clear hW
              obtain ⟨gb, ln, cap, e35, hln, hlt2, hcg⟩ : RowBy bb (ρ 35) w1 := hF 35 (by decide)
              have hli : (0 : Int) < (ln : Int) := by omega
              clear hF
              unfold Rl.Does
              go_simp
              exact ⟨⟨gb, rfl, hlt2, hcg⟩, HW.out, Below.refl _ _⟩
            · intro ρ w1 hF hW
              have HW := hidden hW
              clear hW
              obtain ⟨gb, e36, hlt2, hcg⟩ : PtrBy bb (ρ 36) w1 := hF 36 (by decide)
              clear hF
              unfold Rl.Does
              go_simp
              exact ⟨rfl, HW.out, Below.refl _ _⟩
            · intro ρ w1 hF hW
              have HW := hidden hW
              clear hW
              have e32 : ρ 32 = .agg #[.slice sa n cs, .slice ao no co, .slice al nl cl, .slice (some ⟨BF, 0, none⟩) n n, b1] := hF 32 (by decide)
              have e37 : ρ 37 = .int .u8 bb := hF 37 (by decide)
              clear hF
              unfold Rl.Does
              go_simp
              refine (HHS.out _ HW.out).mono ?_
              rintro e w2 ⟨v8, rfl, hr8, hb⟩
              obtain ⟨a8, c8, rfl⟩ := hr8.form
              rw [HX.out] at hr8 ⊢
              exact ⟨_, rfl, ⟨a8, c8, rfl, hr8.el.mono fun k hk => ⟨⟨Nat.le_trans HW.out.size hk.1, hk.2⟩, rfl⟩⟩, below_then HW.out HW.out.size hb, hb⟩
            · intro ρ w1 hF hW
              have HW := hidden hW
              clear hW
              obtain ⟨a8, c8, e38, h38⟩ : RzS wo.heap.size m X (ρ 38) w1 := hF 38 (by decide)
              clear hF h38
              unfold Rl.Does
              go_simp
              exact ⟨rfl, HW.out, Below.refl _ _⟩
            · intro ρ w1 hF hW
              have HW := hidden hW
              clear hW
              clear hF
              unfold Rl.Does
              go_simp
              exact ⟨rfl, HW.out, Below.refl _ _⟩
        case rest =>
          obtain ⟨aw, cw, rfl, rfl, rfl, hRX, hbc⟩ := hcut
          have HRX := hidden (hRX.mono (P' := FarR wc (fun k => k = CB) (rowsN 5 byC n us fun q => clsU N q c)) fun k hk => ⟨HC.out.1.far_new (Nat.le_refl _) hk, rfl⟩)
          have HC1 := hidden (HC.out.kept hbc)
          obtain ⟨wq, hwq⟩ : ∃ wq, wq = wc := ⟨_, rfl⟩
          rw [← hwq] at HRX HC1
          clear hRX hbc HC HBX HOB
          have HJM2 := hidden (fun j hj q => HJM.out c j hj q)
          have HJA2 := hidden (fun q hq => HJA.out c q hq)
          have HWN2 := hidden (fun j hj => HWN.out c j hj)
          have HJ02 := hidden (fun q => HJ0.out c q)
          have HJL2 := hidden (fun j q => HJL.out c j q)
          rw [← HM.out] at HJM2 HJA2 HWN2
          go_wp2
          rw [← hwq]
          clear hwq HJM HJA HWN HJ0 HJL
          go_loopw [40] (fun i wr => ∃ (j : Nat) (us2 : Nat → Value), j ≤ m ∧ i = .int .i64 j ∧ ClsS w6 CB n us2 (fun q => clsJ N c j q) wr ∧ StayR (fun k => k = CB) wq (rowsN 5 byC n us fun q => clsU N q c) wr (rowsN 5 byC n us2 fun q => clsJ N c j q)) (fun i _ => m - (Go.RowKit.intOf i).toNat)
          case atStart => exact ⟨0, us, by omega, rfl, HC1.out.congr fun q _ => (HJ02.out q).symm, by rw [show (fun q => clsJ N c 0 q) = (fun q => clsU N q c) from funext HJ02.out]; exact StayR.refl _ _ _⟩
          case round =>
            clear HC1
            obtain ⟨j, us2, hj, rfl, hC2, hB2⟩ := hrel
            have HC2 := hidden hC2
            have HB2 := hidden hB2
            clear hC2 hB2
            by_cases hjt : j < m
            · obtain ⟨q, hq⟩ : ∃ q, q = (withC N c).getD j 0 := ⟨_, rfl⟩
              have hqs : q < n := by rw [hq]; exact HWN2.out j hjt
              have hrx := HRX.out.mono HB2.out
              obtain ⟨ax, cx, hex, _, _, _, hx4⟩ := hrx
              simp only [Value.slice.injEq] at hex
              obtain ⟨rfl, hml, rfl⟩ := hex
              obtain ⟨bx, ox, rfl, _, hcx⟩ := hx4 (by omega)
              have d0 := hcx j (by omega)
              rw [spI_getDJ, ← hq] at d0
              have HNEW := hidden (show ∀ j', clsJ N c (j + 1) j' = if j' = q then clsJ N c j q ++ [c] else clsJ N c j j' from fun j' => by
                have h1 := HJM2.out j hjt j'
                rw [← hq] at h1
                rw [h1]
                by_cases e : j' = q
                · rw [if_pos e, if_pos e, e]
                · rw [if_neg e, if_neg e])
              have hoP := (HC2.out.2.2.block P (Array.getElem?_eq_some_iff.1 HPN.out.obj).1 HNE.out.1).trans HPN.out.obj
              have d10 := cell_of_row _ _ 10 _ _ _ hoP
              simp at d10
              obtain ⟨ac, cc, huc⟩ := row_slice14 (HC2.out.row hqs)
              have e1 := HC2.out.2.1.cell hqs
              have hl9 := HJL2.out j q
              obtain ⟨L3, hL3⟩ : ∃ L, L = clsJ N c j q := ⟨_, rfl⟩
              have HL3 := hidden hL3
              obtain ⟨q3, hq3⟩ : ∃ n, n = L3.length := ⟨_, rfl⟩
              have HQ3 := hidden hq3
              rw [← hL3, ← hq3] at huc
              rw [← hL3, ← hq3] at hl9
              rw [huc] at e1
              have HUC := hidden huc
              have hal : Below wr.heap.size wr (wr.alloc (.cells #[.int .u8 (c : Int)] 5)) := (Below.refl wr.heap.size wr).alloc (Nat.le_refl _) _
              have HA := hidden (HC2.out.kept hal)
              have hown := HA.out.row hqs
              rw [← hL3, ← hq3, huc] at hown
              have HOW := hidden hown
              have HLN9 := hidden (show q3 + 1 ≤ 1000000 by omega)
              have HBS := hidden (show w6.heap.size ≤ (wr.alloc (.cells #[.int .u8 (c : Int)] 5)).heap.size from HA.out.2.2.size)
              have hqi : (q : Int) < (n : Int) := by omega
              have hwr : IntKind.u8.wrap (c : Int) = (c : Int) := by rw [IntKind.wrap_u8]; omega
              have HI := hidden infoByte
              clear hcx hx4 hml hown hL3 hq3 huc hal hq
              have hald : Below wr.heap.size wr ((wr.alloc (.cells #[.int .u8 (c : Int)] 5)).drew) := ((Below.refl wr.heap.size wr).alloc (Nat.le_refl _) _).drew
              have HAD := hidden (HC2.out.kept hald)
              have HPA := hidden ((hald.block P (Array.getElem?_eq_some_iff.1 hoP).1).trans hoP)
              have d10a := cell_of_row _ _ 10 _ _ _ HPA.out
              simp at d10a
              have e1a := HAD.out.2.1.cell hqs
              rw [HUC.out] at e1a
              have HOWD := hidden (show (((wr.alloc (.cells #[.int .u8 (c : Int)] 5)).drew)).ownsRow w6.heap.size 5 1 (.slice ac q3 cc) q3 (L3.map byC) from HOW.out)
              have HSRC := hidden (show Src ((wr.alloc (.cells #[.int .u8 (c : Int)] 5)).drew) (.slice (some ⟨wr.heap.size, 0, none⟩) 1 1) 1 [.int .u8 (c : Int)] from Src.one wr (.int .u8 (c : Int)) 5 _ rfl)
              have efz := HC2.out.2.1.frozen q
              have hald2 := hidden hald
              clear hald hoP
              go_wp2_with fail
              go_region_law (refine step_app (v := .slice ac q3 cc) rfl _ _ rfl HI.out Tryz.underlying59 rfl (by decide) (by decide) rfl HOWD.out rfl HSRC.out (by simp) (by simp [Value.oneCell']) HLN9.out HBS.out ?_; intro v9 w9 hA9; have HA9 := hidden hA9; obtain ⟨r1, r2, r3⟩ := after_app HA9.out HAD.out hqs HPA.out HUC.out (Array.getElem?_eq_some_iff.1 HPN.out.obj).1; have r4 := cell_of_row _ _ 10 _ _ _ r1; simp at r4; clear r1; obtain ⟨a9, c9, hv9⟩ := row_slice14 hA9.own; subst hv9; clear hA9)
              all_goals
                have hA := HA9.out
                rw [← HUC.out, HQ3.out, HL3.out] at hA
                have hput := ClsS.put (x := c) HAD.out hqs hA (fun j' => HNEW.out j')
                have hsty := (HB2.out.trans (StayR.below (X := fun k => k = CB) hald2.out)).trans (ClsS.stay (n := n) (x := c) hqs hA (fun j' => HNEW.out j'))
                rw [← HL3.out, ← HQ3.out] at hput hsty
                have HPUT := hidden hput
                have HSTY := hidden hsty
                clear hA hput hsty HA9 r2 r3 r4 HNEW HAD HPA HOWD HSRC HOW HA HI HPN HAR HC2 HB2 HRX
              all_goals go_wp2_with fail
              all_goals go_roundw
              all_goals first
                | (simp [Go.RowKit.intOf]; omega)
                | exact ⟨j + 1, _, by omega, by go_num, HPUT.out, HSTY.out⟩
                | ((repeat (refine Exists.intro _ ?_; (try (refine And.intro ?_ rfl)))); exact ⟨j + 1, _, by omega, by go_num, HPUT.out, HSTY.out⟩)
            · obtain rfl : j = m := by omega
              go_wp2
              go_roundw
              case rel => exact ⟨c + 1, us2, by omega, by go_num, HC2.out.congr fun q hq => HJA2.out q hq⟩
              case measure => simp [Go.RowKit.intOf]; omega
      · obtain rfl : c = W := by omega
        have HF := hidden (HRET.out W0 w6 wr P CB BF SB b1 us HBZ.out HPN.out HC.out)
        go_wp2
        go_ret
        exact HF.out
end Go.Proofs.YtmpjjnjggihojaaGreatDoor

/- Contract of Key; two lists that have one key are the same. -/
namespace Go.Proofs.YtmpjjnjggihojaaGreatDoor
open Go.RowKit Go.Lib Go.Joins

theorem take_moreK (l : List Int) (k : Nat) (h : k < l.length) : l.take (k + 1) = l.take k ++ [l.getD k 0] := by
  rw [List.take_succ_eq_append_getElem h, List.getD_eq_getElem?_getD, List.getElem?_eq_getElem h]
  rfl
/-! ### the numerals tell the numbers -/
def rdDec (l : List UInt8) : Nat := l.foldl (fun a c => a * 10 + (c.toNat - 48)) 0
theorem rd_more (l : List UInt8) (c : UInt8) : rdDec (l ++ [c]) = rdDec l * 10 + (c.toNat - 48) := by simp [rdDec]
theorem dig_nat {d : Nat} (h : d < 10) : (UInt8.ofNat (48 + d)).toNat = 48 + d := by simp; omega
theorem rd_dec (u : Nat) : rdDec (decDigits u) = u ∧ ∀ c ∈ decDigits u, 48 ≤ c.toNat ∧ c.toNat ≤ 57 := by
  induction u using Nat.strongRecOn with
  | ind u ih =>
    by_cases h : u < 10
    · rw [decDigits, dif_pos h]
      refine ⟨?_, fun c hc => ?_⟩
      · have := dig_nat h
        simp only [rdDec, List.foldl_cons, List.foldl_nil]
        omega
      · simp only [List.mem_singleton] at hc
        subst hc
        have := dig_nat h
        omega
    · obtain ⟨i1, i2⟩ := ih (u / 10) (by omega)
      rw [decDigits, dif_neg h]
      have hd := dig_nat (d := u % 10) (by omega)
      refine ⟨?_, fun c hc => ?_⟩
      · rw [rd_more, i1, hd]
        omega
      · rcases List.mem_append.1 hc with hc | hc
        · exact i2 c hc
        · simp only [List.mem_singleton] at hc
          subst hc
          omega
theorem dec_ne (u : Nat) : decDigits u ≠ [] := by
  rw [decDigits]
  split <;> simp
theorem itoa_inj {n m : Int} (h : itoa n = itoa m) : n = m := by
  unfold itoa at h
  have no : ∀ (u v : Nat), (45 : UInt8) :: decDigits u ≠ decDigits v := fun u v e => by
    have := (rd_dec v).2 45 (by rw [← e]; simp)
    have e45 : (45 : UInt8).toNat = 45 := rfl
    omega
  split at h
  · split at h
    · have := congrArg rdDec (List.cons.inj h).2
      rw [(rd_dec _).1, (rd_dec _).1] at this
      omega
    · exact absurd h (no _ _)
  · split at h
    · exact absurd h.symm (no _ _)
    · have := congrArg rdDec h
      rw [(rd_dec _).1, (rd_dec _).1] at this
      omega
theorem itoa_comma (n : Int) : (44 : UInt8) ∉ itoa n := fun h => by
  have e44 : (44 : UInt8).toNat = 44 := rfl
  unfold itoa at h
  split at h
  · rcases List.mem_cons.1 h with h | h
    · exact absurd h (by decide)
    · have := (rd_dec _).2 _ h
      omega
  · have := (rd_dec _).2 _ h
    omega
theorem split_at {c : UInt8} : ∀ {a b r s : List UInt8}, c ∉ a → c ∉ b → a ++ c :: r = b ++ c :: s → a = b ∧ r = s
  | [], [], r, s, _, _, h => ⟨rfl, (List.cons.inj h).2⟩
  | [], y :: b, r, s, _, hb, h => absurd (List.cons.inj h).1 (fun e => hb (by rw [e]; simp))
  | x :: a, [], r, s, ha, _, h => absurd (List.cons.inj h).1 (fun e => ha (by rw [← e]; simp))
  | x :: a, y :: b, r, s, ha, hb, h => by
    obtain ⟨e1, e2⟩ := List.cons.inj h
    obtain ⟨i1, i2⟩ := split_at (fun h => ha (List.mem_cons_of_mem _ h)) (fun h => hb (List.mem_cons_of_mem _ h)) e2
    exact ⟨by rw [e1, i1], i2⟩
def keyV (l : List Int) : List UInt8 := l.flatMap fun n => itoa n ++ [44]
theorem key_inj : ∀ {l m : List Int}, keyV l = keyV m → l = m
  | [], [], _ => rfl
  | [], y :: m, h => by simp [keyV] at h
  | x :: l, [], h => by simp [keyV] at h
  | x :: l, y :: m, h => by
    unfold keyV at h
    rw [List.flatMap_cons, List.flatMap_cons, List.append_assoc, List.append_assoc] at h
    obtain ⟨e1, e2⟩ := split_at (itoa_comma x) (itoa_comma y) h
    rw [itoa_inj e1, key_inj e2]
theorem key_len : ∀ {l : List Int}, (∀ x ∈ l, -9223372036854775808 ≤ x ∧ x ≤ 9223372036854775807) → (keyV l).length ≤ 22 * l.length
  | [], _ => by simp [keyV]
  | x :: l, h => by
    have h1 := key_len (l := l) fun y hy => h y (List.mem_cons_of_mem _ hy)
    have h2 := itoa_length_le x (h x (by simp)).1 (h x (by simp)).2
    unfold keyV at *
    rw [List.flatMap_cons, List.length_append, List.length_append, List.length_cons, List.length_cons, List.length_nil]
    omega
theorem key_take (l : List Int) (k : Nat) (h : k < l.length) : keyV (l.take (k + 1)) = (keyV (l.take k) ++ itoa (l.getD k 0)) ++ [44] := by
  unfold keyV
  rw [take_moreK l k h, List.flatMap_append]
  simp

/-! ### a row of bytes of the call's own -/
def RowB (w : World) (B : Nat) (v : Value) (l : List UInt8) : Prop := w.ownsRow B 5 1 v l.length (byteCells l)
theorem RowB.kept {w w' : World} {B : Nat} {v : Value} {l : List UInt8} (h : RowB w B v l) (hb : Below w.heap.size w w') : RowB w' B v l :=
  World.ownsRow.kept (row := none) h ⟨hb.os, hb.tape, hb.output, hb.size, fun k hk _ => hb.block k hk⟩ (by cases v.ownBlock <;> simp)
theorem RowB.form {w : World} {B : Nat} {v : Value} {l : List UInt8} (h : RowB w B v l) : ∃ a c, v = .slice a l.length c := by
  rcases h.2 with ⟨rfl, h0⟩ | ⟨g, cap, cur, rfl, _⟩
  · exact ⟨_, _, by rw [h0]⟩
  · exact ⟨_, _, rfl⟩
theorem RowB.text {w : World} {B : Nat} {v : Value} {l : List UInt8} (h : RowB w B v l) : (convert 59 9 v).run Tryz.prog w = .ok (.string ⟨l.toArray⟩) w := by
  rcases h.2 with ⟨rfl, h0⟩ | ⟨g, cap, cur, rfl, _⟩
  · rw [run_convert_bytes_nil w 59 5 Tryz.underlying59 Tryz.underlying5 _ _ 9 Tryz.underlying9]
    rw [List.eq_nil_of_length_eq_zero h0]
    rfl
  · refine run_convert_bytes_back w _ _ _ _ _ l Tryz.underlying59 Tryz.underlying5 Tryz.underlying9 fun j hj => ?_
    exact World.ownsRow.cells (g := g) h rfl j _ (by simp [byteCells, hj])
theorem infoBy : (Tryz.prog.info? 5).map (fun i => (i.zero, i.size, i.bytes)) = some (some (.int .u8 0), 1, 1) := by kernel_rfl
/-- an append of a comma -/
theorem app_comma {w : World} {ops : Array Oper} {rest : List Oper} {o : Oper} {a : Act} {Q : Exit → Act → World → Prop} (hgd : o.guard = none) (s x : Operand)
    (ho : o.op = .call { callee := .builtin .append, args := #[s, x], argTypes := #[59, 59] }) {base xb n : Nat} {v : Value} {l : List UInt8}
    (hs : a.eval s = v) (hown : RowB w base v l) (hx : a.eval x = .slice (some ⟨xb, 0, none⟩) 1 1) (hxb : w.heap[xb]? = some (.cells #[.int .u8 44] 5 (0, 0))) (hn : l.length = n) (hn2 : n ≤ 100000) (hb0 : base ≤ w.heap.size)
    (h : ∀ g' c' w', RowB w' base (.slice (some ⟨g', 0, none⟩) (n + 1) c') (l ++ [44]) → Below base w w' → wpList Tryz.prog ops Q rest (a.put o.dst (.slice (some ⟨g', 0, none⟩) (n + 1) c')) w') : wpList Tryz.prog ops Q (o :: rest) a w := by
  subst hn
  obtain ⟨i0, hi, hz0, hz1, hz2⟩ := info_parts infoBy
  refine wpList_append_own w hgd s x 59 ho base 5 i0 _ 1 1 Tryz.underlying59 hi hz0 hz1 hz2 rfl (by decide) _ l.length (byteCells l) hs hown ⟨xb, 0, none⟩ 1 1 [.int .u8 44] hx rfl (fun j x hj => ?_) (fun x hx => by simp at hx; subst hx; rfl) (by unfold maxLen; omega) (by omega) hb0 fun v' w' h3 h4 _ => ?_
  · match j, hj with
    | 0, hj =>
      simp only [List.getElem?_cons_zero, Option.some.injEq] at hj
      subst hj
      rw [Addr.add_lit, cell_of_row w xb _ _ _ _ hxb]
      rfl
  · have hb : Below base w w' := (Below.refl base w).grown h4 hb0 fun k e => (hown.lt k e).1
    rcases ownsRow_forms h3 with ⟨_, h0⟩ | ⟨g, c, rfl⟩
    · omega
    · exact h g c w' (by unfold RowB; simpa [byteCells] using h3) hb
/-- the table of the powers of ten is laid -/
def Pow (w : World) : Prop := TabIs Tryz.prog w "internal/strconv.uint64pow10" .u64 pow10Tab
set_option maxHeartbeats 4000000 in
set_option maxRecDepth 100000 in
theorem key_calls (w : World) (v : Value) (l : List Int) (h : RdZ w.heap.size w v l) (hl : l.length ≤ 1000) (hf : ∀ x ∈ l, -9223372036854775808 ≤ x ∧ x ≤ 9223372036854775807) (hp : Pow w) :
    Calls Tryz.prog 53 #[v] w fun e w' => e = .returned (.string ⟨(keyV l).toArray⟩) ∧ Below w.heap.size w w' := by
  obtain ⟨a, cap, rfl, h1, h2, _, h4⟩ := h
  have H4 := hidden h4
  have HKT := hidden (fun k hk => key_take l k hk)
  have HKL := hidden (fun k => (show (keyV (l.take k)).length ≤ 22 * k from by
    have h1 := key_len (l := l.take k) fun x hx => hf x (List.mem_of_mem_take hx)
    rw [List.length_take] at h1
    omega))
  have HF := hidden (fun k (hk : k < l.length) => hf (l.getD k 0) (by rw [List.getD_eq_getElem?_getD, List.getElem?_eq_getElem hk]; exact List.getElem_mem _))
  have HE := hidden (show keyV (l.take l.length) = keyV l by rw [List.take_of_length_le (Nat.le_refl _)])
  have HTB := hidden (tabBelow_of_tabIs hp)
  obtain ⟨m, hmm⟩ : ∃ m, m = l.length := ⟨_, rfl⟩
  rw [← hmm] at H4 HKT HF HE h1 hl ⊢
  unfold maxLen at h2
  clear h4 hmm hf hp
  go_enter Tryz.func53, Tryz.ntmps53
  go_wp2
  go_loopw [3, 5, 8] (fun kv _ i wr => ∃ (k : Nat) (o : Value), k ≤ m ∧ i = .int .i64 k ∧ o = kv ∧ RowB wr w.heap.size o (keyV (l.take k)) ∧ Below w.heap.size w wr) (fun _ _ i _ => m - (intOf i).toNat)
  case atStart => exact ⟨0, _, by omega, rfl, rfl, World.ownsRow_nil _ _ _ _, Below.refl _ _⟩
  case round =>
    obtain ⟨k, o, hk, rfl, rfl, hr, hb⟩ := hrel
    have HR := hidden hr
    have HB := hidden hb
    obtain ⟨av, cv, rfl⟩ := hr.form
    clear hr hb
    by_cases hlt : k < m
    · obtain ⟨b, off, rfl, hbB, hc⟩ := H4.out (by omega)
      have c1 := (HB.out.cell (p := ⟨b, off + k, none⟩) hbB).trans (hc k hlt)
      have HT := hidden (HKT.out k hlt)
      have hlen := HKL.out k
      have hx := HF.out k hlt
      have HA := hidden (Go.Proofs.Tryz.strconv_AppendInt_10 w.heap.size (keyV (l.take k)).length (l.getD k 0) hx.1 hx.2 _ _ wr HR.out HB.out.size (by omega) (HTB.out.on HB.out))
      have HIL := hidden (itoa_length_le (l.getD k 0) hx.1 hx.2)
      generalize l.getD k 0 = x at *
      generalize keyV (l.take k) = K at *
      obtain ⟨q, hq⟩ : ∃ q, q = K.length := ⟨_, rfl⟩
      have HQ := hidden hq
      rw [← hq] at HA hlen ⊢
      have hq2 : q ≤ 22000 := by omega
      clear hc hx hlen hq
      go_wp2_with fail
      refine HA.out.mono ?_
      rintro e w2 ⟨v2, rfl, ho2, hb2, _⟩
      have HR2 := hidden (show RowB w2 w.heap.size v2 (K ++ itoa x) from by
        unfold RowB
        rw [List.length_append, ← HQ.out, show byteCells (K ++ itoa x) = byteCells K ++ byteCells (itoa x) from by simp [byteCells]]
        exact ho2)
      have HB2 := hidden (HB.out.trans hb2)
      obtain ⟨a2, c2, rfl⟩ := HR2.out.form
      obtain ⟨q2, hqq⟩ : ∃ q2, q2 = (K ++ itoa x).length := ⟨_, rfl⟩
      have hq3 : q2 ≤ 30000 := by
        have h1 := HIL.out
        have h2 := HQ.out
        rw [hqq, List.length_append]
        omega
      have HQ2 := hidden hqq.symm
      rw [← hqq] at HR2 ⊢
      clear ho2 hb2 hqq
      go_wp2_with (at_builtin; refine app_comma rfl _ _ rfl rfl (HR2.out.kept ((Below.refl w2.heap.size w2).alloc (Nat.le_refl _) (.cells #[.int .u8 44] 5))) rfl (heap_alloc_new w2 _) HQ2.out (by omega) (Nat.le_trans HB2.out.size (by simp)) ?_; intro g' c' w4 hr4 hb4)
      have HR4 := hidden (show RowB w4 w.heap.size (.slice (some ⟨g', 0, none⟩) (q2 + 1) c') (keyV (l.take (k + 1))) from by rw [HT.out]; exact hr4)
      have HB4 := hidden ((HB2.out.alloc HB2.out.size _).trans hb4)
      clear hr4 hb4
      go_wp2
      go_roundw
      case rel => exact ⟨k + 1, _, by omega, by go_num, rfl, HR4.out, HB4.out⟩
      case measure => simp [intOf]; omega
    · obtain rfl : k = m := by omega
      have hcv := HR.out.text
      rw [show (keyV (l.take k)).toArray = (keyV l).toArray from by rw [HE.out]] at hcv
      obtain ⟨q, hq⟩ : ∃ q, q = (keyV (l.take k)).length := ⟨_, rfl⟩
      rw [← hq] at hcv ⊢
      clear hq
      go_wp2
      go_ret
      exact ⟨rfl, HB.out⟩
end Go.Proofs.YtmpjjnjggihojaaGreatDoor
