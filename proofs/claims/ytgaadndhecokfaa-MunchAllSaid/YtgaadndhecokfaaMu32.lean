/- FuFar, FuRFuse, DfMath, DfMach, put together. -/
import Derived.Test.YtgaadndhecokfaaMu19
import Derived.Test.YtgaadndhecokfaaMu27
import Derived.Test.YtgaadndhecokfaaMu12
import Derived.Test.YtgaadndhecokfaaMu14
/- What lies far from a net that is built stays as it is; a set, a number, a flag, a list put behind a net's rows. -/
namespace Go.Proofs.Ytgaadndhecokfaa
open Go.RowKit Go.Lib Go.Joins
/-- what is far from the net is as it was, and far -/
def FarK (NB : Nat) (w : World) (rs : List R5) (w' : World) (rs' : List R5) : Prop := ∀ k, Far w NB rs k → Far w' NB rs' k ∧ w'.heap[k]? = w.heap[k]?
theorem FarK.refl (NB : Nat) (w : World) (rs : List R5) : FarK NB w rs w rs := fun _ h => ⟨h, rfl⟩
theorem FarK.trans {NB : Nat} {a b c : World} {ra rb rc : List R5} (h : FarK NB a ra b rb) (k : FarK NB b rb c rc) : FarK NB a ra c rc := fun i hi => ⟨(k i (h i hi).1).1, (k i (h i hi).1).2.trans (h i hi).2⟩
theorem FarK.below {NB : Nat} {w w' : World} {rs : List R5} (hb : Below w.heap.size w w') : FarK NB w rs w' rs := fun k hk => ⟨⟨Nat.lt_of_lt_of_le hk.1 hb.size, hk.2⟩, hb.block k hk.1⟩
theorem FarK.put {NB : Nat} {w w' : World} {rs : List R5} (i : Nat) (hi : i < rs.length) (r' : R5) (hg : w.grownBy w' rs[i].v.ownBlock) (hat : r'.v.ownBlock = rs[i].v.ownBlock ∨ r'.v.ownBlock = some w.heap.size) : FarK NB w rs (w'.setCell ⟨NB, i, none⟩ r'.v) (rs.set i r') := fun k hk => by
  obtain ⟨h1, h2⟩ := InO.other i hi r' hg hat hk.1 hk.2
  exact ⟨⟨by have := hg.size; have := hk.1; simp; omega, h2⟩, h1⟩
/-- a net that is built, beside what was far from it in world wA -/
def StF (w0 : World) (base : Nat) (wA : World) (rsA : List R5) (NB : Nat) (N : NetM) (w : World) : Prop :=
  ∃ vs vo vl vf v1 us, NetW w NB base vs vo vl vf v1 us N ∧ FarK NB wA rsA w (rows5 vs vo vl vf v1 us N) ∧ Below base w0 w
section
variable {w w0 w' wA : World} {rsA : List R5} {NB base : Nat} {vs vo vl vf v1 : Value} {us : List Value} {N : NetM}
theorem StF.putS {S' : List Stp} {v' : Value} (h : NetW w NB base vs vo vl vf v1 us N) (hE : FarK NB wA rsA w (rows5 vs vo vl vf v1 us N)) (h0 : Below base w0 w) (hB : base ≤ NB) (hs : base ≤ w.heap.size)
    (hA : Appd w w' base 90 4 vs v' (N.sets.length + S'.length) (N.sets.flatMap setC ++ S'.flatMap setC)) : StF w0 base wA rsA NB { N with sets := N.sets ++ S' } (w'.setCell ⟨NB, 0, none⟩ v') :=
  ⟨_, _, _, _, _, _, h.putS hA.grown (rowS_app hA.own) hA.lies, hE.trans (FarK.put (rs := rows5 vs vo vl vf v1 us N) 0 (by simp [rows5]) ⟨90, 4, v', (N.sets ++ S').length, (N.sets ++ S').flatMap setC⟩ hA.grown hA.lies), put_below h0 hs hA.grown (row_low h.rowS) hB⟩
theorem StF.putO {m : List Int} {v' : Value} (h : NetW w NB base vs vo vl vf v1 us N) (hE : FarK NB wA rsA w (rows5 vs vo vl vf v1 us N)) (h0 : Below base w0 w) (hB : base ≤ NB) (hs : base ≤ w.heap.size)
    (hA : Appd w w' base 3 1 vo v' (N.of.length + m.length) (N.of.map (Value.int .i64) ++ m.map (Value.int .i64))) : StF w0 base wA rsA NB { N with of := N.of ++ m } (w'.setCell ⟨NB, 1, none⟩ v') :=
  ⟨_, _, _, _, _, _, h.putO hA.grown (rowZ_app hA.own) hA.lies, hE.trans (FarK.put (rs := rows5 vs vo vl vf v1 us N) 1 (by simp [rows5]) ⟨3, 1, v', (N.of ++ m).length, (N.of ++ m).map (Value.int .i64)⟩ hA.grown hA.lies), put_below h0 hs hA.grown (row_low h.rowO) hB⟩
theorem StF.putL {m : List Bool} {v' : Value} (h : NetW w NB base vs vo vl vf v1 us N) (hE : FarK NB wA rsA w (rows5 vs vo vl vf v1 us N)) (h0 : Below base w0 w) (hB : base ≤ NB) (hs : base ≤ w.heap.size)
    (hA : Appd w w' base 4 1 vl v' (N.last.length + m.length) (N.last.map Value.bool ++ m.map Value.bool)) : StF w0 base wA rsA NB { N with last := N.last ++ m } (w'.setCell ⟨NB, 2, none⟩ v') :=
  ⟨_, _, _, _, _, _, h.putL hA.grown (rowB_app hA.own) hA.lies, hE.trans (FarK.put (rs := rows5 vs vo vl vf v1 us N) 2 (by simp [rows5]) ⟨4, 1, v', (N.last ++ m).length, (N.last ++ m).map Value.bool⟩ hA.grown hA.lies), put_below h0 hs hA.grown (row_low h.rowL) hB⟩
theorem StF.put1 {m : List Int} {v' : Value} (h : NetW w NB base vs vo vl vf v1 us N) (hE : FarK NB wA rsA w (rows5 vs vo vl vf v1 us N)) (h0 : Below base w0 w) (hB : base ≤ NB) (hs : base ≤ w.heap.size)
    (hA : Appd w w' base 3 1 v1 v' (N.first.length + m.length) (N.first.map (Value.int .i64) ++ m.map (Value.int .i64))) : StF w0 base wA rsA NB { N with first := N.first ++ m } (w'.setCell ⟨NB, 4, none⟩ v') :=
  ⟨_, _, _, _, _, _, h.put1 hA.grown (rowZ_app hA.own) hA.lies, hE.trans (FarK.put (rs := rows5 vs vo vl vf v1 us N) 4 (by simp [rows5]) ⟨3, 1, v', (N.first ++ m).length, (N.first ++ m).map (Value.int .i64)⟩ hA.grown hA.lies), put_below h0 hs hA.grown (row_low h.row1) hB⟩
theorem StF.putF {x : Value} {l : List Int} {v' : Value} (h : NetW w NB base vs vo vl vf v1 us N) (hE : FarK NB wA rsA w (rows5 vs vo vl vf v1 us N)) (h0 : Below base w0 w) (hB : base ≤ NB) (hs : base ≤ w.heap.size)
    (hx : ElR (Far w NB (rows5 vs vo vl vf v1 us N)) w x l) (hA : Appd w w' base 24 1 vf v' (N.fol.length + 1) (us ++ [x])) : StF w0 base wA rsA NB { N with fol := N.fol ++ [l] } (w'.setCell ⟨NB, 3, none⟩ v') := by
  have hR : rows5 vs vo vl v' v1 (us ++ [x]) { N with fol := N.fol ++ [l] } = (rows5 vs vo vl vf v1 us N).set 3 ⟨24, 1, v', N.fol.length + 1, us ++ [x]⟩ := by simp [rows5]
  refine ⟨_, _, _, _, _, _, h.putF hx hA.grown hA.own hA.lies, ?_, put_below h0 hs hA.grown (row_low h.rowF) hB⟩
  rw [hR]
  exact hE.trans (FarK.put (rs := rows5 vs vo vl vf v1 us N) 3 (by simp [rows5]) ⟨24, 1, v', N.fol.length + 1, us ++ [x]⟩ hA.grown hA.lies)
/-- a slice of sets in a block of this kind -/
def ElS (P : Nat → Prop) (w : World) (v : Value) (S : List Stp) : Prop := ∃ a cap, v = .slice a S.length cap ∧ (0 < S.length → ∃ b off, a = some ⟨b, off, none⟩ ∧ P b ∧ ∀ i, i < S.length → w.cell? ⟨b, off + i * 4, none⟩ = some (.int .u64 (S.getD i default).a) ∧ w.cell? ⟨b, off + i * 4 + 1, none⟩ = some (.int .u64 (S.getD i default).b) ∧ w.cell? ⟨b, off + i * 4 + 2, none⟩ = some (.int .u64 (S.getD i default).c) ∧ w.cell? ⟨b, off + i * 4 + 3, none⟩ = some (.int .u64 (S.getD i default).d))
theorem ElS.at {P P' : Nat → Prop} {a : Option Addr} {n c : Nat} {S : List Stp} (h : ElS P w (.slice a n c) S) (hk : ∀ k, P k → P' k ∧ w'.heap[k]? = w.heap[k]?) (i : Nat) (hi : i < S.length) : ∃ b off, a = some ⟨b, off, none⟩ ∧ P' b ∧ w'.cell? ⟨b, off + i * 4, none⟩ = some (.int .u64 (S.getD i default).a) ∧ w'.cell? ⟨b, off + i * 4 + 1, none⟩ = some (.int .u64 (S.getD i default).b) ∧ w'.cell? ⟨b, off + i * 4 + 2, none⟩ = some (.int .u64 (S.getD i default).c) ∧ w'.cell? ⟨b, off + i * 4 + 3, none⟩ = some (.int .u64 (S.getD i default).d) := by
  obtain ⟨a', cap, e, h4⟩ := h
  simp only [Value.slice.injEq] at e
  obtain ⟨rfl, _, _⟩ := e
  obtain ⟨b, off, e, hP, hc⟩ := h4 (by omega)
  obtain ⟨x0, x1, x2, x3⟩ := hc i hi
  exact ⟨b, off, e, (hk b hP).1, (World.cell?_of_block (a := ⟨b, off + i * 4, none⟩) (hk b hP).2).trans x0, (World.cell?_of_block (a := ⟨b, off + i * 4 + 1, none⟩) (hk b hP).2).trans x1, (World.cell?_of_block (a := ⟨b, off + i * 4 + 2, none⟩) (hk b hP).2).trans x2, (World.cell?_of_block (a := ⟨b, off + i * 4 + 3, none⟩) (hk b hP).2).trans x3⟩
theorem RowS.el {B : Nat} {v : Value} {S : List Stp} (h : RowS w B v S) : ElS (fun k => B ≤ k ∧ k < w.heap.size) w v S := by
  have h' := h
  rcases h.2 with ⟨rfl, h0⟩ | ⟨g, cap, cur, rfl, hb, hg, h1, h2, h3, h4⟩
  · exact ⟨none, 0, by rw [h0], fun hp => by omega⟩
  · refine ⟨some ⟨g, 0, none⟩, cap, rfl, fun _ => ⟨g, 0, rfl, ⟨hb, (Array.getElem?_eq_some_iff.1 hg).1⟩, fun i hi => ?_⟩⟩
    have hc : ∀ j, j < 4 → w.cell? ⟨g, i * 4 + j, none⟩ = (setC (S.getD i default))[j]? := fun j hj => by
      rw [World.ownsRow.cellAt h' (i * 4 + j) (by omega)]
      exact flat_set4 S i hi j hj
    rw [Nat.zero_add]
    exact ⟨hc 0 (by omega), hc 1 (by omega), hc 2 (by omega), hc 3 (by omega)⟩
theorem NetW.freshS {B : Nat} {S : List Stp} {u : Value} (h : NetW w NB base vs vo vl vf v1 us N) (hr : RowS w' B u S) (hB : w.heap.size ≤ B) : ElS (Far w' NB (rows5 vs vo vl vf v1 us N)) w' u S := by
  obtain ⟨a, cap, e, h4⟩ := hr.el
  refine ⟨a, cap, e, fun hp => ?_⟩
  obtain ⟨b, off, e, hP, hc⟩ := h4 hp
  exact ⟨b, off, e, ⟨hP.2, fun hI => by have := h.own.ltO hI; omega⟩, hc⟩
theorem ElS.mono {P P' : Nat → Prop} {u : Value} {S : List Stp} (h : ElS P w u S) (hk : ∀ k, P k → P' k ∧ w'.heap[k]? = w.heap[k]?) : ElS P' w' u S := by
  obtain ⟨a, cap, rfl, h4⟩ := h
  refine ⟨a, cap, rfl, fun hp => ?_⟩
  obtain ⟨b, off, e, hP, hc⟩ := h4 hp
  refine ⟨b, off, e, (hk b hP).1, fun i hi => ?_⟩
  obtain ⟨x0, x1, x2, x3⟩ := hc i hi
  exact ⟨(World.cell?_of_block (a := ⟨b, off + i * 4, none⟩) (hk b hP).2).trans x0, (World.cell?_of_block (a := ⟨b, off + i * 4 + 1, none⟩) (hk b hP).2).trans x1, (World.cell?_of_block (a := ⟨b, off + i * 4 + 2, none⟩) (hk b hP).2).trans x2, (World.cell?_of_block (a := ⟨b, off + i * 4 + 3, none⟩) (hk b hP).2).trans x3⟩
end
theorem Src.four (w : World) (x0 x1 x2 x3 : Value) (t : TypeId) (b : Nat) (hb : b = w.heap.size) : Src (w.alloc (.cells #[x0, x1, x2, x3] t)) (.slice (some ⟨b, 0, none⟩) 1 1) 1 [x0, x1, x2, x3] := by
  subst hb
  refine .inr ⟨_, _, rfl, fun j u hj => ?_⟩
  rw [Addr.add_lit, Nat.zero_add, cell_of_row _ _ _ _ _ _ (heap_alloc_new w (.cells #[x0, x1, x2, x3] t))]
  simpa using hj
theorem rspsets_calls {C : Nat → Prop} {v : Value} {L : List Stp} {w : World} (h : SlX C w v L) (hC : ∀ b, C b → b < w.heap.size) (hl : L.length ≤ 512) : Calls Try.prog 39 #[v] w (RetS w (setsL L)) := by
  unfold setsL
  by_cases hz : (measV L).2 = 0
  · rw [if_pos hz]
    exact rsets_calls h hC hz hl
  · rw [if_neg hz]
    exact rsets_none h hC hz
/-- behind j rounds of the reference's inner loop -/
def refK (N : NetM) (token : Int) (L : List Stp) (j : Nat) : NetM :=
  ⟨N.sets ++ (setsL L).take j, N.of ++ List.replicate j token, N.last ++ (List.range j).map (fun i : Nat => decide ((i : Int) ∈ spI (elems (prtL L).last))),
    N.fol ++ (List.range j).map (fun i : Nat => mvd (spI (elems (folL i L))) N.sets.length), N.first⟩
theorem refK_more (N : NetM) (token : Int) (L : List Stp) (k : Nat) (hk : k < (setsL L).length) : refK N token L (k + 1) = { { { { refK N token L k with
    sets := (refK N token L k).sets ++ [(setsL L).getD k default] } with of := (refK N token L k).of ++ [token] } with last := (refK N token L k).last ++ [decide ((k : Int) ∈ spI (elems (prtL L).last))] } with fol := (refK N token L k).fol ++ [mvd (spI (elems (folL k L))) N.sets.length] } := by
  simp only [refK, List.range_succ, List.replicate_succ', List.map_append, List.map_cons, List.map_nil, List.append_assoc, NetM.mk.injEq, and_self, and_true]
  rw [List.take_succ_eq_append_getElem hk, List.getD_eq_getElem?_getD, List.getElem?_eq_getElem hk]
  rfl
theorem refK_zero (N : NetM) (token : Int) (L : List Stp) : refK N token L 0 = N := by simp [refK]
theorem refK_all (N : NetM) (token : Int) (L : List Stp) : { refK N token L (setsL L).length with first := (refK N token L (setsL L).length).first ++ mvd (spI (elems (prtL L).first)) N.sets.length } = addM N token L := by
  simp [refK, addM]
end Go.Proofs.Ytgaadndhecokfaa

/- Contract of the reference's Fuse. -/
namespace Go.Proofs.Ytgaadndhecokfaa
open Go.RowKit Go.Lib Go.Joins
theorem bumpS (w : World) (o : Obj) : Below w.heap.size w (w.alloc o) := (Below.refl w.heap.size w).alloc (Nat.le_refl _) o
set_option maxHeartbeats 8000000 in
set_option maxRecDepth 100000 in
theorem rFuse_calls {C : Nat → Prop} {v : Value} {T : List (List Stp)} {w : World} (h : Toks C w v T) (hC : ∀ b, C b → b < w.heap.size) (hT : FewT T) :
    Calls Try.prog 23 #[v] w (RetN w (fuseM T)) := by
  have HV := hidden h
  have HC := hidden hC
  have HF := hidden hT
  obtain ⟨av, cv, rfl, _⟩ := h
  have hb0 := ((Below.refl w.heap.size w).alloc (Nat.le_refl _) (.cells #[.slice none 0 0, .slice none 0 0, .slice none 0 0, .slice none 0 0, .slice none 0 0] 53)).alloc (by simp) (.cells #[.slice none 0 0, .slice none 0 0, .slice none 0 0, .slice none 0 0, .slice none 0 0] 53)
  have hn0 := NetW.nil (w.alloc (.cells #[.slice none 0 0, .slice none 0 0, .slice none 0 0, .slice none 0 0, .slice none 0 0] 53)) (w.heap.size + 1)
  have ho0 := heap_alloc2_old w (.cells #[.slice none 0 0, .slice none 0 0, .slice none 0 0, .slice none 0 0, .slice none 0 0] 53) (.cells #[.slice none 0 0, .slice none 0 0, .slice none 0 0, .slice none 0 0, .slice none 0 0] 53)
  rw [show (w.alloc (.cells #[.slice none 0 0, .slice none 0 0, .slice none 0 0, .slice none 0 0, .slice none 0 0] 53)).heap.size = w.heap.size + 1 by simp] at hn0
  have HB0 := hidden hb0
  have HN0 := hidden hn0
  have HO0 := hidden ho0
  obtain ⟨m, hm⟩ : ∃ m, m = T.length := ⟨_, rfl⟩
  have HM := hidden hm
  have hm12 := hm ▸ hT.len
  rw [← hm]
  clear hC hT hb0 hn0 ho0 hm
  go_enter Try.func23, Try.ntmps23
  go_wp2_with fail
  generalize hW : (w.alloc (.cells #[.slice none 0 0, .slice none 0 0, .slice none 0 0, .slice none 0 0, .slice none 0 0] 53)).alloc (.cells #[.slice none 0 0, .slice none 0 0, .slice none 0 0, .slice none 0 0, .slice none 0 0] 53) = W at *
  have HWs := hidden (show W.heap.size = w.heap.size + 2 by rw [← hW]; simp)
  clear hW
  go_loopw [4] (fun i wr => ∃ k vs vo vl vf v1 us, k ≤ m ∧ i = .int .i64 k ∧ NetW wr (w.heap.size + 1) (w.heap.size + 1) vs vo vl vf v1 us (fuseK T k) ∧ Below (w.heap.size + 1) W wr) (fun i _ => m - (Go.RowKit.intOf i).toNat)
  case atStart => exact ⟨0, _, _, _, _, _, _, by omega, rfl, HN0.out, Below.refl _ _⟩
  case round =>
    obtain ⟨k, vs, vo, vl, vf, v1, us, hk, rfl, hN, hB⟩ := hrel
    have HN := hidden hN
    have HB := hidden hB
    have HBw := hidden (HB0.out.trans (hB.mono (Nat.le_succ _)))
    clear hN hB HN0
    by_cases hlt : k < m
    · obtain ⟨b, off, a2, c2, rfl, hCb, hc, hx⟩ := HV.out.at (C' := C) (w' := wr) (fun b hb => ⟨hb, HBw.out.block b (HC.out b hb)⟩) k (HM.out ▸ hlt)
      have HX := hidden hx
      have HCB := hidden hCb
      have hL9 := HF.out.each k
      have hwd := HF.out.wide k
      have hln := fuseK_len HF.out k (by omega)
      have HBS := hidden (show w.heap.size + 1 ≤ wr.heap.size from by have := HB.out.size; have := HWs.out; omega)
      have HFK := hidden (show fuseK T (k + 1) = addM (fuseK T k) k (T.getD k []) from fuseK_more T k)
      obtain ⟨L, hL⟩ : ∃ L, L = T.getD k [] := ⟨_, rfl⟩
      obtain ⟨N, hNN⟩ : ∃ N, N = fuseK T k := ⟨_, rfl⟩
      rw [← hL] at HX hc hL9 hwd HFK
      rw [← hNN] at HN hln HFK
      have HWD := hidden hwd
      have HL9 := hidden hL9
      have HNL := hidden hln
      obtain ⟨as0, cs0, rfl⟩ := rowS_slice2 HN.out.rowS
      obtain ⟨k0, k1, k2, k3, k4⟩ := HN.out.cells
      clear hx hL9 hCb hwd hln hL hNN k1 k2 k3 k4
      go_wp2_with fail
      refine (rspsets_calls HX.out (fun b hb => Nat.lt_of_lt_of_le (HC.out b hb) (Nat.le_of_succ_le HBS.out)) (by have := HL9.out; omega)).mono ?_
      rintro e w1 ⟨v6, rfl, hr6, hb6⟩
      have HB6 := hidden hb6
      have HE6 := hidden (HN.out.freshS hr6 (Nat.le_refl _))
      have HN6 := hidden (HN.out.kept hb6)
      have HX6 := hidden (HX.out.below (C' := C) (w' := w1) fun b hb => ⟨hb, hb6.block b (Nat.lt_of_lt_of_le (HC.out b hb) (Nat.le_of_succ_le HBS.out))⟩)
      have hc6 := (hb6.cell (p := ⟨b, off + k * 3 + 1, none⟩) (Nat.lt_of_lt_of_le (HC.out b HCB.out) (Nat.le_of_succ_le HBS.out))).trans hc
      have HBS6 := hidden (Nat.le_trans HBS.out hb6.size)
      obtain ⟨a6, c6, rfl⟩ := rowS_slice2 hr6
      clear hr6 hb6 hc
      go_wp2_with fail
      refine (rLast_calls HX6.out (fun b hb => Nat.lt_of_lt_of_le (HC.out b hb) (Nat.le_of_succ_le HBS6.out)) HWD.out).mono ?_
      rintro e w2 ⟨v7, rfl, hr7, hb7⟩
      have HN7 := hidden (HN6.out.kept hb7)
      have HE7 := hidden (HE6.out.mono (FarK.below (rs := rows5 (.slice as0 N.sets.length cs0) vo vl vf v1 us N) hb7))
      have HZ7 := hidden (HN6.out.fresh hr7 (Nat.le_refl _))
      have HB7 := hidden (below_after HB6.out hb7)
      obtain ⟨a7, c7, hv7⟩ := hr7.form
      subst hv7
      have HBA := hidden (HB.out.trans (HB7.out.mono HBS.out))
      have HXA := hidden (HX6.out.below (C' := C) (w' := w2) fun b hb => ⟨hb, hb7.block b (Nat.lt_of_lt_of_le (HC.out b hb) (Nat.le_of_succ_le HBS6.out))⟩)
      have HCA := hidden ((hb7.cell (p := ⟨b, off + k * 3 + 1, none⟩) (Nat.lt_of_lt_of_le (HC.out b HCB.out) (Nat.le_of_succ_le HBS6.out))).trans hc6)
      clear hr7 hb7 hc6 HX HX6 HE6 HN6 HN k0 HB6 HB7 HBS HBS6 HBw
      obtain ⟨lst, hlst⟩ : ∃ l, l = spI (elems (prtL L).last) := ⟨_, rfl⟩
      obtain ⟨n, hn⟩ : ∃ n, n = (setsL L).length := ⟨_, rfl⟩
      obtain ⟨d, hd⟩ : ∃ d, d = N.sets.length := ⟨_, rfl⟩
      have HLST := hidden hlst
      have HNS := hidden hn
      have HD := hidden hd
      have HLL := hidden (show lst.length ≤ 256 from by rw [hlst]; exact sp_le _)
      have hn90 : n ≤ 90 := by rw [hn]; have := setsL_len L; have := HL9.out; omega
      rw [← hlst] at HZ7
      rw [← hlst, ← hn, ← hd]
      rw [← hn] at HE7
      rw [← hd] at HN7 HZ7 HE7
      have hrA : ∃ rsA, rsA = rows5 (.slice as0 d cs0) vo vl vf v1 us N := ⟨_, rfl⟩
      clear hlst hn hd
      obtain ⟨rsA, hrs⟩ := hrA
      have hS0 : StF W (w.heap.size + 1) w2 rsA (w.heap.size + 1) (refK N k L 0) w2 := by
        rw [refK_zero, hrs]
        exact ⟨_, _, _, _, _, _, HN7.out, FarK.refl _ _ _, HBA.out⟩
      rw [← hrs] at HE7 HZ7
      have HS0 := hidden hS0
      have HSL := hidden (show (setsL L).length = n from HNS.out.symm)
      clear hS0 hrs
      go_wp2_with fail
      go_loopw [8] (fun i wq => ∃ j, j ≤ n ∧ i = .int .i64 j ∧ StF W (w.heap.size + 1) w2 rsA (w.heap.size + 1) (refK N k L j) wq) (fun i _ => n - (Go.RowKit.intOf i).toNat)
      case atStart => exact ⟨0, by omega, rfl, HS0.out⟩
      case round =>
        obtain ⟨j, hj, rfl, hS⟩ := hrel
        obtain ⟨qs, qo, ql, qf, q1, qus, hNq, hFq, hBq⟩ := hS
        have hszq := hBq.size
        have HBK := hidden (fun (wx : World) (hB : Below (w.heap.size + 1) W wx) x (hx : x < w.heap.size + 1) => (hB.block x hx).trans (HBA.out.block x hx).symm)
        by_cases hjt : j < n
        · have hszq' : w.heap.size + 1 ≤ wr.heap.size := by have := HWs.out; omega
          have HNd := hidden (hNq.kept (w' := wr.drew) (Below.refl _ _).drew)
          have HFd := hidden (hFq.trans (FarK.below (w' := wr.drew) (Below.refl _ _).drew))
          have HLEN := hidden (show (refK N k L j).sets.length + 1 ≤ 1000000 ∧ (refK N k L j).of.length + 1 ≤ 1000000 ∧ (refK N k L j).last.length + 1 ≤ 1000000 ∧ (refK N k L j).fol.length + 1 ≤ 1000000 from by
            have := HNL.out
            simp only [refK, List.length_append, List.length_take, List.length_replicate, List.length_map, List.length_range]
            omega)
          have HMORE := hidden (refK_more N k L j (HSL.out.symm ▸ hjt))
          rw [← HLST.out, ← HD.out] at HMORE
          obtain ⟨b6, o6, rfl, _, s0, s1, s2, s3⟩ := HE7.out.at (w' := wr.drew) HFd.out j (HSL.out.symm ▸ hjt)
          generalize (setsL L).getD j default = sj at *
          obtain ⟨sk, sa, sb, sc, sd⟩ := sj
          dsimp only at s0 s1 s2 s3
          have hal : Below wr.heap.size wr (wr.alloc (.cells #[.int .u64 sa, .int .u64 sb, .int .u64 sc, .int .u64 sd] 90)).drew := (bumpS wr _).drew
          have HNa := hidden (hNq.kept hal)
          have HFa := hidden (hFq.trans (FarK.below hal))
          have HBa := hidden ((hBq.alloc hszq' (.cells #[.int .u64 sa, .int .u64 sb, .int .u64 sc, .int .u64 sd] 90)).drew)
          have HBSa := hidden (Nat.le_trans hszq' hal.size)
          obtain ⟨m0, m1, m2, m3, m4⟩ := HNd.out.cells
          obtain ⟨n0, n1, n2, n3, n4⟩ := HNa.out.cells
          obtain ⟨a5, c5, rfl⟩ := rowS_slice2 hNq.rowS
          have HI := hidden infoS
          clear hNq hFq hBq hal m1 m2 m3 m4 n1 n2 n3 n4 HS0
          go_wp2_with fail
          go_cut [] from 31 to 73 (fun wx => StF W (w.heap.size + 1) w2 rsA (w.heap.size + 1) { refK N k L j with sets := (refK N k L j).sets ++ [(⟨sk, sa, sb, sc, sd⟩ : Stp)] } wx)
          case first =>
            go_region_law ((refine step_app rfl _ _ rfl HI.out Try.underlying50 rfl (by decide) (by decide) rfl HNa.out.rowS rfl (Src.four _ (.int .u64 sa) (.int .u64 sb) (.int .u64 sc) (.int .u64 sd) 90 _ rfl) (by simp) (by simp [Value.oneCell']) HLEN.out.1 HBSa.out ?_; intro v9 w9 hA9; have HA9 := hidden hA9; have hob9 := HNa.out.still hA9.grown HNa.out.apartS; have r4 := cell_of_row w9 (w.heap.size + 1) 0 _ _ _ hob9; have hf9 := frozen_row hob9 0; clear hob9; obtain ⟨a9, c9, hv9⟩ := row_slice hA9.own; subst hv9; clear hA9))
            all_goals (have hS := StF.putS (S' := [⟨sk, sa, sb, sc, sd⟩]) HNa.out HFa.out HBa.out (Nat.le_refl _) HBSa.out HA9.out)
            all_goals (try go_wp2_with fail)
            all_goals go_meet
            all_goals exact hS
          case rest =>
            obtain ⟨qs, qo, ql, qf, q1, qus, hNq, hFq, hBq⟩ := hcut
            have hszc : w.heap.size + 1 ≤ wc.heap.size := by have := HWs.out; have := hBq.size; omega
            have hal := bumpS wc (.cells #[.int .i64 k] 3)
            have HNa := hidden (hNq.kept hal)
            have HFa := hidden (hFq.trans (FarK.below hal))
            have HBa := hidden (hBq.alloc hszc (.cells #[.int .i64 k] 3))
            have HBSa := hidden (Nat.le_trans hszc hal.size)
            obtain ⟨m0, m1, m2, m3, m4⟩ := hNq.cells
            obtain ⟨n0, n1, n2, n3, n4⟩ := HNa.out.cells
            obtain ⟨a5, c5, rfl⟩ := hNq.rowO.form
            have HI5 := hidden infoInt
            clear hNq hFq hBq hal m0 m2 m3 m4 n0 n2 n3 n4
            go_wp2_with (at_builtin; refine wpList_app rfl _ _ rfl HI5.out Try.underlying24 rfl (by decide) (by decide) rfl HNa.out.rowO rfl (Src.one wc (.int .i64 k) 3 _ rfl) (by simp) (by simp [Value.oneCell']) HLEN.out.2.1 HBSa.out ?_; intro v3 w3 hA; have HA3 := hidden hA; obtain ⟨a3, c3, hv3⟩ := row_slice hA.own; subst hv3; have hob3 := HNa.out.still hA.grown HNa.out.apartO; have l0 := cell_of_row w3 (w.heap.size + 1) 1 _ _ _ hob3; have hfz := frozen_row hob3 1; clear hA hob3 m1 n1)
            have HS3 := hidden (StF.putO (m := [(k : Int)]) HNa.out HFa.out HBa.out (Nat.le_refl _) HBSa.out HA3.out)
            clear l0 hfz
            generalize w3.setCell ⟨w.heap.size + 1, 1, none⟩ (.slice a3 ((refK N k L j).of.length + 1) c3) = w7 at *
            go_cut [] from 31 to 73 (fun wx => StF W (w.heap.size + 1) w2 rsA (w.heap.size + 1) { { { refK N k L j with sets := (refK N k L j).sets ++ [(⟨sk, sa, sb, sc, sd⟩ : Stp)] } with of := (refK N k L j).of ++ [(k : Int)] } with last := (refK N k L j).last ++ [decide ((j : Int) ∈ lst)] } wx)
            case first =>
              obtain ⟨qs, qo, ql, qf, q1, qus, hN4, hF4, hB4⟩ := HS3.out
              have HB4 := hidden hB4.drew
              have HN4 := hidden (hN4.kept (w' := w7.drew) (Below.refl _ _).drew)
              have HF4 := hidden (hF4.trans (FarK.below (w' := w7.drew) (Below.refl _ _).drew))
              have HB4b := hidden (show w.heap.size + 1 ≤ w7.drew.heap.size from Nat.le_trans (by have := HWs.out; omega) HB4.out.size)
              obtain ⟨a5, c5, rfl⟩ := row_slice hN4.rowL
              obtain ⟨m0, m1, m2, m3, m4⟩ := HN4.out.cells
              have HI6 := hidden infoB
              have HZ4 := hidden (show RdZ w7.drew.heap.size w7.drew (.slice a7 lst.length c7) lst from HZ7.out.mono fun k hk => ⟨(HF4.out k hk).1.1, (HF4.out k hk).2⟩)
              obtain ⟨bb, hbb⟩ : ∃ b, b = decide ((j : Int) ∈ lst) := ⟨_, rfl⟩
              have HBB := hidden hbb
              clear hB4 hN4 hF4 m0 m1 m3 m4 HS3 HA3 hbb
              go_region_law (first
                | (go_simp; refine (has11_calls _ _ lst (j : Int) HZ4.out).mono ?_;
                   rintro e w5 ⟨rfl, hb5⟩; rw [← HBB.out]; have hn5 := HN4.out.kept hb5; have HF5 := hidden (HF4.out.trans (FarK.below hb5)); obtain ⟨p0, p1, p2, p3, p4⟩ := hn5.cells; have HB5x := hidden (below_then HB4.out HB4b.out hb5); have HB5b := hidden (Nat.le_trans HB4b.out hb5.size);
                   have hal := bumpS w5 (.cells #[.bool bb] 4);
                   have HN6 := hidden (hn5.kept hal); have HF6 := hidden (HF5.out.trans (FarK.below hal)); have HB6 := hidden (HB5x.out.alloc HB5b.out (.cells #[.bool bb] 4)); have HB6b := hidden (Nat.le_trans HB5b.out hal.size); obtain ⟨q0, q1, q2, q3, q4⟩ := HN6.out.cells; clear hal hb5 hn5 p0 p1 p3 p4 q0 q1 q3 q4; dsimp only)
                | (refine step_app rfl _ _ rfl HI6.out Try.underlying51 rfl (by decide) (by decide) rfl HN6.out.rowL rfl (Src.one _ (.bool bb) 4 _ rfl) (by simp) (by simp [Value.oneCell']) HLEN.out.2.2.1 HB6b.out ?_;
                   intro v9 w9 hA9; have HA9 := hidden hA9; have hob9 := HN6.out.still hA9.grown HN6.out.apartL; have r4 := cell_of_row w9 (w.heap.size + 1) 2 _ _ _ hob9; have hf9 := frozen_row hob9 2; clear hob9; obtain ⟨a9, c9, hv9⟩ := row_slice hA9.own; subst hv9; clear hA9))
              all_goals (have hS := StF.putL (m := [bb]) HN6.out HF6.out HB6.out (Nat.le_refl _) HB6b.out HA9.out)
              all_goals (try go_wp2_with fail)
              all_goals go_meet
              all_goals exact (by rw [← HBB.out]; exact hS)
            case rest =>
              obtain ⟨qs, qo, ql, qf, q1, qus, hN4, hF4, hB4⟩ := hcut
              have HB4 := hidden hB4.drew
              have HN4 := hidden (hN4.kept (w' := wc.drew) (Below.refl _ _).drew)
              have HF4 := hidden (hF4.trans (FarK.below (w' := wc.drew) (Below.refl _ _).drew))
              have HB4b := hidden (show w.heap.size + 1 ≤ wc.drew.heap.size from Nat.le_trans (by have := HWs.out; omega) HB4.out.size)
              obtain ⟨a5, c5, rfl⟩ := row_slice hN4.rowF
              obtain ⟨m0, m1, m2, m3, m4⟩ := HN4.out.cells
              have HI7 := hidden infoZZ
              have HV4 := hidden (HXA.out.below (C' := C) (w' := wc.drew) fun x hx => ⟨hx, HBK.out wc.drew HB4.out x (Nat.lt_succ_of_lt (HC.out x hx))⟩)
              have hc4 := (World.cell?_of_block (a := ⟨b, off + k * 3 + 1, none⟩) (HBK.out wc.drew HB4.out b (Nat.lt_succ_of_lt (HC.out b HCB.out)))).trans HCA.out
              have HL1 := hidden (sp_le (folL j L))
              have hj90 : j ≤ 90 := by omega
              clear hB4 hN4 hF4 m0 m1 m2 m4 HS3 HA3
              go_wp2_with fail
              go_region_law (first
                | (go_simp; refine (rFollow_calls (j : Int) HV4.out (fun x hx => Nat.lt_of_lt_of_le (HC.out x hx) (Nat.le_of_succ_le HB4b.out)) HWD.out).mono ?_;
                   rintro e w5 ⟨v5, rfl, hr5, hb5⟩; have HR5 := hidden hr5; have HB5 := hidden (below_then HB4.out HB4b.out hb5); have HB5b := hidden (Nat.le_trans HB4b.out hb5.size); have hn5 := HN4.out.kept hb5; have HN5 := hidden hn5; have HF5 := hidden (HF4.out.trans (FarK.below hb5)); obtain ⟨p0, p1, p2, p3, p4⟩ := hn5.cells; obtain ⟨a6, c6, hv6⟩ := hr5.form; subst hv6; clear hr5 hb5 hn5 p0 p1 p2 p4; dsimp only)
                | (go_simp; refine (rmoved_calls (d : Int) HR5.out.reads (by have := HL1.out; omega)).mono ?_;
                   rintro e w6 ⟨v7, rfl, hr7, hb7⟩; have hn7 := HN5.out.kept hb7; have HX7 := hidden (HN5.out.fresh hr7 (Nat.le_refl _)); have HF7 := hidden (HF5.out.trans (FarK.below hb7)); obtain ⟨p0, p1, p2, p3, p4⟩ := hn7.cells; obtain ⟨a8, c8, hv8⟩ := hr7.form; subst hv8; have HB7 := hidden (below_then HB5.out HB5b.out hb7); have HB7b := hidden (Nat.le_trans HB5b.out hb7.size);
                   have hal := bumpS w6 (.cells #[.slice a8 (mvd (spI (elems (folL j L))) d).length c8] 24);
                   have HN8 := hidden (hn7.kept hal); have HF8 := hidden (HF7.out.trans (FarK.below hal)); have HX8 := hidden (far_kept HX7.out hal); have HB8 := hidden (HB7.out.alloc HB7b.out (.cells #[.slice a8 (mvd (spI (elems (folL j L))) d).length c8] 24)); have HB8b := hidden (Nat.le_trans HB7b.out hal.size); obtain ⟨q0, q1', q2, q3, q4⟩ := HN8.out.cells;
                   clear hal hr7 hb7 hn7 p0 p1 p2 p4 q0 q1' q2 q4; dsimp only)
                | (refine step_app rfl _ _ rfl HI7.out Try.underlying23 rfl (by decide) (by decide) rfl HN8.out.rowF rfl (Src.one _ (.slice a8 (mvd (spI (elems (folL j L))) d).length c8) 24 _ rfl) (by simp) (by simp [Value.oneCell']) HLEN.out.2.2.2 HB8b.out ?_;
                   intro v9 w9 hA9; have HA9 := hidden hA9; have hob9 := HN8.out.still hA9.grown HN8.out.apartF; have r4 := cell_of_row w9 (w.heap.size + 1) 3 _ _ _ hob9; have hf9 := frozen_row hob9 3; clear hob9; obtain ⟨a9, c9, hv9⟩ := row_slice hA9.own; subst hv9; clear hA9))
              all_goals (have hS := StF.putF HN8.out HF8.out HB8.out (Nat.le_refl _) HB8b.out HX8.out HA9.out)
              all_goals go_wp2_with fail
              all_goals go_roundw
              all_goals first
                | (exact ⟨j + 1, by omega, by go_num, by rw [HMORE.out]; exact hS⟩)
                | (simp [Go.RowKit.intOf]; omega)
        · have e : j = n := by omega
          subst e
          have hszc : w.heap.size + 1 ≤ wr.heap.size := by have := HWs.out; omega
          have HB4 := hidden hBq.drew
          have HN4 := hidden (hNq.kept (w' := wr.drew) (Below.refl _ _).drew)
          have HB4b := hidden (show w.heap.size + 1 ≤ wr.drew.heap.size from hszc)
          obtain ⟨a5, c5, rfl⟩ := hNq.row1.form
          obtain ⟨m0, m1, m2, m3, m4⟩ := HN4.out.cells
          have HI7 := hidden infoInt
          have HV4 := hidden (HXA.out.below (C' := C) (w' := wr.drew) fun x hx => ⟨hx, HBK.out wr.drew HB4.out x (Nat.lt_succ_of_lt (HC.out x hx))⟩)
          have hc4 := (World.cell?_of_block (a := ⟨b, off + k * 3 + 1, none⟩) (HBK.out wr.drew HB4.out b (Nat.lt_succ_of_lt (HC.out b HCB.out)))).trans HCA.out
          have HL1 := hidden (sp_le (prtL L).first)
          have HLF := hidden (show (refK N k L j).first.length + (mvd (spI (elems (prtL L).first)) d).length ≤ 1000000 from by
            have := HNL.out.2.2.2.2
            have := HL1.out
            rw [mvd_len]
            simp only [refK]
            omega)
          have HALL := hidden (refK_all N k L)
          rw [HSL.out, ← HD.out] at HALL
          clear hNq hFq hBq m0 m1 m2 m3 HS0
          go_wp2_with fail
          go_region_law (first
            | (go_simp; refine (rFirst_calls HV4.out (fun x hx => Nat.lt_of_lt_of_le (HC.out x hx) (Nat.le_of_succ_le HB4b.out)) HWD.out).mono ?_;
               rintro e w5 ⟨v5, rfl, hr5, hb5⟩; have HR5 := hidden hr5; have HB5 := hidden (below_then HB4.out HB4b.out hb5); have HB5b := hidden (Nat.le_trans HB4b.out hb5.size); have hn5 := HN4.out.kept hb5; have HN5 := hidden hn5; obtain ⟨p0, p1, p2, p3, p4⟩ := hn5.cells; obtain ⟨a6, c6, hv6⟩ := hr5.form; subst hv6; clear hr5 hb5 hn5 p0 p1 p2 p3; dsimp only)
            | (go_simp; refine (rmoved_calls (d : Int) HR5.out.reads (by have := HL1.out; omega)).mono ?_;
               rintro e w6 ⟨v7, rfl, hr7, hb7⟩; have HR7 := hidden hr7; have hn7 := HN5.out.kept hb7; have HN7 := hidden hn7; obtain ⟨p0, p1, p2, p3, q4⟩ := hn7.cells; obtain ⟨a8, c8, hv8⟩ := hr7.form; subst hv8; have HB7 := hidden (below_then HB5.out HB5b.out hb7); have HB7b := hidden (Nat.le_trans HB5b.out hb7.size); clear hr7 hb7 hn7 p0 p1 p2 p3; dsimp only)
            | (refine step_app rfl _ _ rfl HI7.out Try.underlying24 rfl (by decide) (by decide) rfl HN7.out.row1 rfl (Src.row HR7.out) (by simp) (fun _ hz => ints_one hz) HLF.out HB7b.out ?_;
               intro v9 w9 hA9; have HA9 := hidden hA9; have hob9 := HN7.out.still hA9.grown HN7.out.apart1; have r4 := cell_of_row w9 (w.heap.size + 1) 4 _ _ _ hob9; have hf9 := frozen_row hob9 4; clear hob9; obtain ⟨a9, c9, hv9⟩ := row_slice hA9.own; subst hv9; clear hA9))
          all_goals (have hS := StF.put1 HN7.out (FarK.refl _ _ _) HB7.out (Nat.le_refl _) HB7b.out HA9.out)
          all_goals rw [HALL.out] at hS
          all_goals obtain ⟨zs, zo, zl, zf, z1, zus, hNz, _, hBz⟩ := hS
          all_goals go_wp2_with fail
          all_goals go_roundw
          all_goals first
            | (exact ⟨k + 1, zs, zo, zl, zf, z1, zus, by omega, by go_num, by rw [HFK.out]; exact hNz, hBz⟩)
            | (simp [Go.RowKit.intOf]; omega)
    · have e : k = m := by omega
      subst e
      have HE := hidden (HM.out ▸ fuseK_all T : fuseK T k = fuseM T)
      rw [HE.out] at HN
      have HO1 := hidden ((HB.out.block w.heap.size (by omega)).trans HO0.out)
      go_wp2_with (first
        | (refine wpList_load_row rfl 53 (.tmp 3) rfl (w.heap.size + 1) rfl 53 #[vs, vo, vl, vf, v1] (0, 0) _ HN.out.obj Try.underlying53 rfl (by kernel_rfl) ?_)
        | (refine store_row (B := w.heap.size) (cs := #[vs, vo, vl, vf, v1]) (old := #[.slice none 0 0, .slice none 0 0, .slice none 0 0, .slice none 0 0, .slice none 0 0]) (t := 53) rfl (ty := 53) (x := .tmp 2) (y := .tmp 86) rfl rfl rfl HO1.out 5 (by kernel_rfl) rfl rfl (five_one HN.out) ?_; intro w2 hw2 hg2; have HL2 := hidden hw2; have HG2 := hidden hg2; clear hw2 hg2))
      have HW2 := hidden (HN.out.over HG2.out (Nat.lt_succ_self _) (Nat.le_refl _) (nil_cells HO1.out))
      have HB2 := hidden (HBw.out.grown HG2.out HBw.out.size (fun j e => by simp only [Option.some.injEq] at e; omega))
      exact ret_net Try.results23 rfl rfl HL2.out ⟨_, _, _, _, _, rfl, HW2.out.reads, HB2.out⟩
end Go.Proofs.Ytgaadndhecokfaa

/- How a machine of lists is found: over any steps: what the loop holds after each round, that it stops, that each place stands for its list. -/
namespace Go.Proofs.Ytgaadndhecokfaa
open Go.RowKit

section
variable (go : Nat → List Int → Nat → List Int) (tok : List Int → Int) (W : Nat)
/-- what is found, and the row, behind one class more -/
def clsS (i : Nat) (s : List (List Int) × List Int) (c : Nat) : List (List Int) × List Int :=
  if go i (s.1.getD i []) c = [] then (s.1, s.2 ++ [-1])
  else if findI (go i (s.1.getD i []) c) s.1 0 < 0 then (s.1 ++ [go i (s.1.getD i []) c], s.2 ++ [(s.1.length : Int)])
  else (s.1, s.2 ++ [findI (go i (s.1.getD i []) c) s.1 0])
/-- behind c classes of row i -/
def rowS (i : Nat) (F : List (List Int)) : Nat → List (List Int) × List Int
  | 0 => (F, [])
  | c + 1 => clsS go i (rowS i F c) c
/-- behind i rows: what is found, the rows, the labels -/
def outS : Nat → List (List Int) × List (List Int) × List Int
  | 0 => ([[]], [], [])
  | i + 1 => if i < (outS i).1.length then ((rowS go i (outS i).1 W).1, (outS i).2.1 ++ [(rowS go i (outS i).1 W).2], (outS i).2.2 ++ [tok ((rowS go i (outS i).1 W).1.getD i [])]) else outS i

theorem clsS_pre (i : Nat) (s : List (List Int) × List Int) (c : Nat) : s.1 <+: (clsS go i s c).1 := by
  unfold clsS
  split
  · exact List.prefix_rfl
  · split
    · exact List.prefix_append _ _
    · exact List.prefix_rfl
theorem rowS_pre (i : Nat) (F : List (List Int)) {c d : Nat} (h : c ≤ d) : (rowS go i F c).1 <+: (rowS go i F d).1 := by
  induction d with
  | zero => obtain rfl : c = 0 := by omega
            exact List.prefix_rfl
  | succ d ih =>
    by_cases e : c = d + 1
    · subst e; exact List.prefix_rfl
    · exact (ih (by omega)).trans (clsS_pre go i _ d)
theorem outS_step (i : Nat) : (outS go tok W i).1 <+: (outS go tok W (i + 1)).1 := by
  show (outS go tok W i).1 <+: (if _ then _ else _ : _ × _ × _).1
  split
  · exact rowS_pre go i _ (Nat.zero_le W)
  · exact List.prefix_rfl
theorem outS_pre {i j : Nat} (h : i ≤ j) : (outS go tok W i).1 <+: (outS go tok W j).1 := by
  induction j with
  | zero => obtain rfl : i = 0 := by omega
            exact List.prefix_rfl
  | succ j ih =>
    by_cases e : i = j + 1
    · subst e; exact List.prefix_rfl
    · exact (ih (by omega)).trans (outS_step go tok W j)
theorem outS_more {i : Nat} (h : i < (outS go tok W i).1.length) : outS go tok W (i + 1) = ((rowS go i (outS go tok W i).1 W).1, (outS go tok W i).2.1 ++ [(rowS go i (outS go tok W i).1 W).2], (outS go tok W i).2.2 ++ [tok ((rowS go i (outS go tok W i).1 W).1.getD i [])]) := by
  show (if _ then _ else _) = _
  rw [if_pos h]
theorem outS_stop {i : Nat} (h : (outS go tok W i).1.length ≤ i) : ∀ d, outS go tok W (i + d) = outS go tok W i
  | 0 => rfl
  | d + 1 => by
    have e := outS_stop h d
    show (if i + d < (outS go tok W (i + d)).1.length then _ else outS go tok W (i + d)) = _
    rw [if_neg (by rw [e]; omega), e]
/-- behind i rounds -/
theorem outS_lens : ∀ i, i ≤ (outS go tok W i).1.length → (outS go tok W i).2.1.length = i ∧ (outS go tok W i).2.2.length = i
  | 0, _ => ⟨rfl, rfl⟩
  | i + 1, h => by
    by_cases hi : i < (outS go tok W i).1.length
    · have ih := outS_lens i (by omega)
      rw [outS_more go tok W hi]
      simp [ih.1, ih.2]
    · have e := outS_stop go tok W (i := i) (by omega) 1
      rw [e] at h
      omega
/-- the end of the loop, for a bound -/
theorem outS_end {i m : Nat} (hi : i ≤ m) (h : (outS go tok W i).1.length ≤ i) : outS go tok W (m + 1) = outS go tok W i := by
  have := outS_stop go tok W h (m + 1 - i)
  rwa [show i + (m + 1 - i) = m + 1 by omega] at this
/-- too many, in the midst of a row -/
theorem outS_over {i m c : Nat} (hi : i ≤ m) (hl : i < (outS go tok W i).1.length) (hc : c ≤ W) (h : m < (rowS go i (outS go tok W i).1 c).1.length) : m < (outS go tok W (m + 1)).1.length := by
  have h1 := (rowS_pre go i (outS go tok W i).1 hc).length_le
  have h2 := (outS_pre go tok W (show i + 1 ≤ m + 1 by omega)).length_le
  rw [outS_more go tok W hl] at h2
  exact Nat.lt_of_lt_of_le h (Nat.le_trans h1 h2)
end
end Go.Proofs.Ytgaadndhecokfaa

/- What a machine of lists says: each number of a row stands for the list that it leads to; lists once each; a word's state stands for the word's list. -/
namespace Go.Proofs.Ytgaadndhecokfaa
open Go.RowKit

/-- number x stands for list t -/
def stdF (F : List (List Int)) (x : Int) (t : List Int) : Prop := (t = [] ∧ x = -1) ∨ (t ≠ [] ∧ ∃ k : Nat, x = k ∧ F[k]? = some t)
/-- what is found: the empty list first, each list once -/
def FndOk (F : List (List Int)) : Prop := (∃ r, F = [] :: r) ∧ F.Nodup
theorem pre_get {α : Type} {F G : List α} (h : F <+: G) {k : Nat} {t : α} (hk : F[k]? = some t) : G[k]? = some t := by
  obtain ⟨r, rfl⟩ := h
  have hl := (List.getElem?_eq_some_iff.1 hk).1
  rw [List.getElem?_append_left hl]
  exact hk
theorem pre_getD {α : Type} {F G : List α} (h : F <+: G) {k : Nat} (hk : k < F.length) (d : α) : G.getD k d = F.getD k d := by
  obtain ⟨r, rfl⟩ := h
  simp [List.getD_eq_getElem?_getD, List.getElem?_append_left hk]
theorem stdF.pre {F G : List (List Int)} {x : Int} {t : List Int} (h : stdF F x t) (hp : F <+: G) : stdF G x t := by
  rcases h with h | ⟨h, k, e, hk⟩
  · exact .inl h
  · exact .inr ⟨h, k, e, pre_get hp hk⟩
theorem stdF.bound {F : List (List Int)} {x : Int} {t : List Int} (h : stdF F x t) : -1 ≤ x ∧ x < F.length := by
  rcases h with ⟨_, rfl⟩ | ⟨_, k, rfl, hk⟩
  · constructor <;> omega
  · have := (List.getElem?_eq_some_iff.1 hk).1
    constructor <;> omega
theorem findI_get {F : List (List Int)} {t : List Int} (h : ¬ findI t F 0 < 0) : F[(findI t F 0).toNat]? = some t := by
  have h0 : 0 ≤ findI t F 0 := by omega
  have h1 := findI_yes t F 0 h0
  have h2 : (findI t F 0).toNat < F.length := by
    rcases findI_ge t F 0 with e | e
    · omega
    · omega
  rw [show findI t F 0 - ((0 : Nat) : Int) = findI t F 0 by simp, List.getD_eq_getElem?_getD, List.getElem?_eq_getElem h2] at h1
  rw [List.getElem?_eq_getElem h2]
  simpa using h1
theorem FndOk.zero {F : List (List Int)} (h : FndOk F) : F.getD 0 [] = [] := by
  obtain ⟨⟨r, rfl⟩, _⟩ := h
  rfl
theorem FndOk.pos {F : List (List Int)} (h : FndOk F) : 0 < F.length := by
  obtain ⟨⟨r, rfl⟩, _⟩ := h
  simp
section
variable (go : Nat → List Int → Nat → List Int) (tok : List Int → Int) (W : Nat)
theorem clsS_ok {i : Nat} {s : List (List Int) × List Int} (c : Nat) (hF : FndOk s.1) :
    FndOk (clsS go i s c).1 ∧ ∃ x, (clsS go i s c).2 = s.2 ++ [x] ∧ stdF (clsS go i s c).1 x (go i (s.1.getD i []) c) := by
  unfold clsS
  generalize go i (s.1.getD i []) c = t
  split
  · rename_i h
    exact ⟨hF, -1, rfl, .inl ⟨h, rfl⟩⟩
  · rename_i h
    split
    · rename_i h2
      have hm : t ∉ s.1 := (findI_no t s.1 0).1 (by
        rcases findI_ge t s.1 0 with e | e
        · exact e
        · omega)
      refine ⟨⟨?_, ?_⟩, _, rfl, .inr ⟨h, s.1.length, rfl, by simp⟩⟩
      · obtain ⟨r, e⟩ := hF.1
        exact ⟨r ++ [t], by simp [e]⟩
      · rw [List.nodup_append]
        exact ⟨hF.2, by simp, fun a ha b hb => by
          simp only [List.mem_singleton] at hb
          subst hb
          exact fun e => hm (e ▸ ha)⟩
    · rename_i h2
      exact ⟨hF, _, rfl, .inr ⟨h, (findI t s.1 0).toNat, by omega, findI_get h2⟩⟩
theorem rowS_ok {i : Nat} {F : List (List Int)} (hF : FndOk F) (hi : i < F.length) : ∀ c, FndOk (rowS go i F c).1 ∧ (rowS go i F c).2.length = c ∧
    ∀ d, d < c → stdF (rowS go i F c).1 ((rowS go i F c).2.getD d 0) (go i (F.getD i []) d)
  | 0 => ⟨hF, rfl, fun _ h => absurd h (Nat.not_lt_zero _)⟩
  | c + 1 => by
    obtain ⟨h1, h2, h3⟩ := rowS_ok hF hi c
    have hp := rowS_pre go i F (Nat.zero_le c)
    have hg : (rowS go i F c).1.getD i [] = F.getD i [] := pre_getD hp hi []
    obtain ⟨k1, x, k2, k3⟩ := clsS_ok go (i := i) (s := rowS go i F c) c h1
    rw [hg] at k3
    refine ⟨k1, ?_, fun d hd => ?_⟩
    · show (clsS go i (rowS go i F c) c).2.length = _
      rw [k2]; simp [h2]
    · show stdF (clsS go i (rowS go i F c) c).1 ((clsS go i (rowS go i F c) c).2.getD d 0) _
      rw [k2]
      by_cases e : d = c
      · subst e
        have : ((rowS go i F d).2 ++ [x]).getD d 0 = x := by
          rw [List.getD_eq_getElem?_getD, List.getElem?_append_right (by omega), h2]
          simp
        rw [this]; exact k3
      · have : ((rowS go i F c).2 ++ [x]).getD d 0 = (rowS go i F c).2.getD d 0 := by
          rw [List.getD_eq_getElem?_getD, List.getElem?_append_left (by omega), ← List.getD_eq_getElem?_getD]
        rw [this]
        exact (h3 d (by omega)).pre (clsS_pre go i _ c)
/-- behind n rows -/
theorem outS_ok : ∀ n, n ≤ (outS go tok W n).1.length → FndOk (outS go tok W n).1 ∧ ∀ i, i < n → ((outS go tok W n).2.1.getD i []).length = W ∧
    (∀ c, c < W → stdF (outS go tok W n).1 (((outS go tok W n).2.1.getD i []).getD c 0) (go i ((outS go tok W n).1.getD i []) c)) ∧ (outS go tok W n).2.2.getD i 0 = tok ((outS go tok W n).1.getD i [])
  | 0, _ => ⟨⟨⟨[], rfl⟩, by simp [outS]⟩, fun _ h => absurd h (Nat.not_lt_zero _)⟩
  | n + 1, h => by
    by_cases hn : n < (outS go tok W n).1.length
    · obtain ⟨h1, h2⟩ := outS_ok n (by omega)
      obtain ⟨l1, l2⟩ := outS_lens go tok W n (by omega)
      rw [outS_more go tok W hn]
      generalize outS go tok W n = s at *
      obtain ⟨F, N, L⟩ := s
      simp only at *
      obtain ⟨r1, r2, r3⟩ := rowS_ok go h1 hn W
      have hp := rowS_pre go n F (Nat.zero_le W)
      refine ⟨r1, fun i hi => ?_⟩
      by_cases e : i = n
      · subst e
        have e1 : (N ++ [(rowS go i F W).2]).getD i [] = (rowS go i F W).2 := by
          rw [List.getD_eq_getElem?_getD, List.getElem?_append_right (by omega), l1]; simp
        have e2 : (L ++ [tok ((rowS go i F W).1.getD i [])]).getD i 0 = tok ((rowS go i F W).1.getD i []) := by
          rw [List.getD_eq_getElem?_getD, List.getElem?_append_right (by omega), l2]; simp
        rw [e1, e2, pre_getD hp hn []]
        exact ⟨r2, r3, rfl⟩
      · have e1 : (N ++ [(rowS go n F W).2]).getD i [] = N.getD i [] := by
          rw [List.getD_eq_getElem?_getD, List.getElem?_append_left (by omega), ← List.getD_eq_getElem?_getD]
        have e2 : (L ++ [tok ((rowS go n F W).1.getD n [])]).getD i 0 = L.getD i 0 := by
          rw [List.getD_eq_getElem?_getD, List.getElem?_append_left (by omega), ← List.getD_eq_getElem?_getD]
        rw [e1, e2, pre_getD hp (show i < F.length by omega) []]
        obtain ⟨k1, k2, k3⟩ := h2 i (by omega)
        exact ⟨k1, fun c hc => (k2 c hc).pre hp, k3⟩
    · have e := outS_stop go tok W (i := n) (by omega) 1
      rw [e] at h
      omega
/-- each list that is found is the empty one, or what a step leads to -/
theorem outS_all {P : List Int → Prop} (h0 : P []) (hg : ∀ i l c, P (go i l c)) : ∀ n, ∀ t ∈ (outS go tok W n).1, P t
  | 0, t, h => by
    simp only [outS, List.mem_singleton] at h
    subst h; exact h0
  | n + 1, t, h => by
    have ih := outS_all h0 hg n
    by_cases hn : n < (outS go tok W n).1.length
    · rw [outS_more go tok W hn] at h
      exact rowS_all h0 hg n _ ih W t h
    · have e := outS_stop go tok W (i := n) (by omega) 1
      rw [e] at h
      exact ih t h
where rowS_all {P : List Int → Prop} (h0 : P []) (hg : ∀ i l c, P (go i l c)) (i : Nat) (F : List (List Int)) (hF : ∀ t ∈ F, P t) : ∀ c, ∀ t ∈ (rowS go i F c).1, P t
  | 0, t, h => hF t h
  | c + 1, t, h => by
    have ih := rowS_all h0 hg i F hF c
    have h' : t ∈ (clsS go i (rowS go i F c) c).1 := h
    unfold clsS at h'
    split at h'
    · exact ih t h'
    · split at h'
      · rcases List.mem_append.1 h' with h' | h'
        · exact ih t h'
        · simp only [List.mem_singleton] at h'
          subst h'
          exact hg _ _ _
      · exact ih t h'
end
end Go.Proofs.Ytgaadndhecokfaa
