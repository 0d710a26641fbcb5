/- DfTwo, FuFar, FuRFuse, FuKn, put together. -/
import Derived.Test.YtmpjjnjggihojaaGreatDoorDf33
import Derived.Test.YtmpjjnjggihojaaGreatDoorDf28
import Derived.Test.YtmpjjnjggihojaaGreatDoorDf18
import Derived.Test.YtmpjjnjggihojaaGreatDoorDf02
/- The chapter's two tokens, read and put side by side. -/
namespace Go.Proofs.YtmpjjnjggihojaaGreatDoor
open Go.RowKit Go.Lib Go.Joins
theorem ap_at : At apT 0 97 ∧ At apT 1 43 := ⟨⟨by decide, rfl⟩, ⟨by decide, rfl⟩⟩
theorem ab_at : At abT 0 97 ∧ At abT 1 98 := ⟨⟨by decide, rfl⟩, ⟨by decide, rfl⟩⟩
theorem ap_branch (w : World) : Calls Tryz.prog 65 #[.string apT, .int .i64 ((0 : Nat) : Int)] w (Rd w apL 2) := by
  obtain ⟨a0, a1⟩ := ap_at
  refine rbranch_calls apT w (by decide) [⟨0, 1, 43, [bS 97]⟩] 0 (by decide) (fun j => if j = 0 then 0 else 2) rfl ?_ ?_ (.inl rfl) (by decide)
  · intro j hj
    obtain rfl : j = 0 := by simpa using hj
    exact ⟨_, rfl, ⟨by decide, ⟨97, a0, by decide, by decide⟩, fun W _ => ratom_at apT 0 97 W a0 (by decide) (k_plain 97 (.inl rfl)), ⟨.inr (.inl rfl), a1, .inl rfl⟩, by decide, by decide⟩, rfl, rfl⟩
  · intro j hj
    have : apT.size = 2 := rfl
    rw [this]
    split <;> omega
theorem ab_branch (w : World) : Calls Tryz.prog 65 #[.string abT, .int .i64 ((0 : Nat) : Int)] w (Rd w abL 2) := by
  obtain ⟨a0, a1⟩ := ab_at
  refine rbranch_calls abT w (by decide) [⟨0, 1, 0, [bS 97]⟩, ⟨1, 2, 0, [bS 98]⟩] 0 (by decide) (fun j => j) rfl ?_ ?_ (.inl rfl) (by decide)
  · intro j hj
    have hj' : j = 0 ∨ j = 1 := by simp at hj; omega
    rcases hj' with rfl | rfl
    · exact ⟨_, rfl, ⟨by decide, ⟨97, a0, by decide, by decide⟩, fun W _ => ratom_at abT 0 97 W a0 (by decide) (k_plain 97 (.inl rfl)), .inr ⟨98, a1, by decide⟩, by decide, by decide⟩, rfl, rfl⟩
    · exact ⟨_, rfl, ⟨by decide, ⟨98, a1, by decide, by decide⟩, fun W _ => ratom_at abT 1 98 W a1 (by decide) (k_plain 98 (.inr (.inl rfl))), .inl rfl, by decide, by decide⟩, rfl, rfl⟩
  · intro j hj
    have : abT.size = 2 := rfl
    rw [this]
    exact hj
theorem ap_text (w : World) : Calls Tryz.prog 49 #[.string apT, .int .i64 ((0 : Nat) : Int)] w (Rd w apL 2) :=
  rtext_calls apT w (by decide) ⟨0, 2, apL⟩ [] (by decide) ⟨by decide, by decide, fun W _ => ap_branch W⟩ (fun _ => 2) rfl (fun j hj => by simp at hj) (fun _ _ => by decide) (.inl rfl) (by decide)
theorem ab_text (w : World) : Calls Tryz.prog 49 #[.string abT, .int .i64 ((0 : Nat) : Int)] w (Rd w abL 2) :=
  rtext_calls abT w (by decide) ⟨0, 2, abL⟩ [] (by decide) ⟨by decide, by decide, fun W _ => ab_branch W⟩ (fun _ => 2) rfl (fun j hj => by simp at hj) (fun _ _ => by decide) (.inl rfl) (by decide)
set_option maxRecDepth 100000 in
theorem ap_read (w : World) : Calls Tryz.prog 24 #[.string ⟨#[97, 43]⟩] w fun e w' => (∃ v, e = .returned (.tuple #[v, .int .i64 2, .int .i64 0]) ∧ RowX w' w.heap.size v apL) ∧ Below w.heap.size w w' := by
  have HT := hidden (ap_text w)
  go_enter Tryz.func24, Tryz.ntmps24
  go_wp2_with fail
  refine HT.out.mono ?_
  rintro e w1 ⟨v, rfl, hr, hb1⟩
  obtain ⟨a1, c1, rfl⟩ : ∃ a c, v = .slice a 2 c := by
    rcases ownsRow_forms hr with ⟨rfl, h0⟩ | ⟨g, cap, rfl⟩
    · cases h0
    · exact ⟨_, _, rfl⟩
  go_wp2
  go_ret3
  exact ⟨⟨_, rfl, hr⟩, hb1⟩
set_option maxRecDepth 100000 in
theorem ab_read (w : World) : Calls Tryz.prog 24 #[.string ⟨#[97, 98]⟩] w fun e w' => (∃ v, e = .returned (.tuple #[v, .int .i64 2, .int .i64 0]) ∧ RowX w' w.heap.size v abL) ∧ Below w.heap.size w w' := by
  have HT := hidden (ab_text w)
  go_enter Tryz.func24, Tryz.ntmps24
  go_wp2_with fail
  refine HT.out.mono ?_
  rintro e w1 ⟨v, rfl, hr, hb1⟩
  obtain ⟨a1, c1, rfl⟩ : ∃ a c, v = .slice a 3 c := by
    rcases ownsRow_forms hr with ⟨rfl, h0⟩ | ⟨g, cap, rfl⟩
    · cases h0
    · exact ⟨_, _, rfl⟩
  go_wp2
  go_ret3
  exact ⟨⟨_, rfl, hr⟩, hb1⟩
theorem RowX.kept2 {w w' : World} {base : Nat} {v : Value} {L : List Stp} (h : RowX w base v L) (hb : Below w.heap.size w w') : RowX w' base v L :=
  World.ownsRow.kept (row := none) h ⟨hb.os, hb.tape, hb.output, hb.size, fun k hk _ => hb.block k hk⟩ (by cases v.ownBlock <;> simp)
theorem toks_two (w : World) (u1 u2 x y m n : Value) (t : TypeId) (g : Nat) (hg : g = w.heap.size) (h1 : SlX (fun b => b < w.heap.size) w u1 apL) (h2 : SlX (fun b => b < w.heap.size) w u2 abL) :
    Toks (fun b => b < (w.alloc (.cells #[x, u1, m, y, u2, n] t)).heap.size) (w.alloc (.cells #[x, u1, m, y, u2, n] t)) (.slice (some ⟨g, 0, none⟩) 2 2) twoT := by
  subst hg
  have hl : ∀ {v L}, SlX (fun b => b < w.heap.size) w v L → SlX (fun b => b < (w.alloc (.cells #[x, u1, m, y, u2, n] t)).heap.size) (w.alloc (.cells #[x, u1, m, y, u2, n] t)) v L := fun h => h.below fun b hb => ⟨by have h : b < w.heap.size := hb; simp; omega, ((Below.refl w.heap.size w).alloc (Nat.le_refl _) _).block b hb⟩
  refine ⟨_, _, rfl, by decide, by decide, fun _ => ⟨w.heap.size, 0, rfl, by simp, fun i hi => ?_⟩⟩
  have hi' : i = 0 ∨ i = 1 := by
    have : twoT.length = 2 := rfl
    omega
  rcases hi' with rfl | rfl
  · exact ⟨u1, cell_of_row _ _ 1 _ _ _ (heap_alloc_new w _), hl h1⟩
  · exact ⟨u2, cell_of_row _ _ 4 _ _ _ (heap_alloc_new w _), hl h2⟩
end Go.Proofs.YtmpjjnjggihojaaGreatDoor

/- What lies far from a net that is built stays as it is; a set, a number, a flag, a list put behind a net's rows. -/
namespace Go.Proofs.YtmpjjnjggihojaaGreatDoor
open Go.RowKit Go.Lib Go.Joins
/-- what is far from the net is as it was, and far -/
def FarK (NB : Nat) (w : World) (rs : List R5) (w' : World) (rs' : List R5) : Prop := ∀ k, Far w NB rs k → Far w' NB rs' k ∧ w'.heap[k]? = w.heap[k]?
theorem FarK.refl (NB : Nat) (w : World) (rs : List R5) : FarK NB w rs w rs := fun _ h => ⟨h, rfl⟩
theorem FarK.trans {NB : Nat} {a b c : World} {ra rb rc : List R5} (h : FarK NB a ra b rb) (k : FarK NB b rb c rc) : FarK NB a ra c rc := fun i hi => ⟨(k i (h i hi).1).1, (k i (h i hi).1).2.trans (h i hi).2⟩
theorem FarK.below {NB : Nat} {w w' : World} {rs : List R5} (hb : Below w.heap.size w w') : FarK NB w rs w' rs := fun k hk => ⟨⟨Nat.lt_of_lt_of_le hk.1 hb.size, hk.2⟩, hb.block k hk.1⟩
theorem FarK.put {NB : Nat} {w w' : World} {rs : List R5} (i : Nat) (hi : i < rs.length) (r' : R5) (hg : w.grownBy w' rs[i].v.ownBlock) (hat : r'.v.ownBlock = rs[i].v.ownBlock ∨ r'.v.ownBlock = some w.heap.size) : FarK NB w rs (w'.setCell ⟨NB, i, none⟩ r'.v) (rs.set i r') := fun k hk => by
  obtain ⟨h1, h2⟩ := InO.other i hi r' hg hat hk.1 hk.2
  exact ⟨⟨by have := hg.size; have := hk.1; simp; omega, h2⟩, h1⟩
/-- a net that is built, beside what was far from it in world wA -/
def StF (w0 : World) (base : Nat) (wA : World) (rsA : List R5) (NB : Nat) (N : NetM) (w : World) : Prop :=
  ∃ vs vo vl vf v1 us, NetW w NB base vs vo vl vf v1 us N ∧ FarK NB wA rsA w (rows5 vs vo vl vf v1 us N) ∧ Below base w0 w
section
variable {w w0 w' wA : World} {rsA : List R5} {NB base : Nat} {vs vo vl vf v1 : Value} {us : List Value} {N : NetM}
theorem StF.putS {S' : List Stp} {v' : Value} (h : NetW w NB base vs vo vl vf v1 us N) (hE : FarK NB wA rsA w (rows5 vs vo vl vf v1 us N)) (h0 : Below base w0 w) (hB : base ≤ NB) (hs : base ≤ w.heap.size)
    (hA : Appd w w' base 74 4 vs v' (N.sets.length + S'.length) (N.sets.flatMap setC ++ S'.flatMap setC)) : StF w0 base wA rsA NB { N with sets := N.sets ++ S' } (w'.setCell ⟨NB, 0, none⟩ v') :=
  ⟨_, _, _, _, _, _, h.putS hA.grown (rowS_app hA.own) hA.lies, hE.trans (FarK.put (rs := rows5 vs vo vl vf v1 us N) 0 (by simp [rows5]) ⟨74, 4, v', (N.sets ++ S').length, (N.sets ++ S').flatMap setC⟩ hA.grown hA.lies), put_below h0 hs hA.grown (row_low h.rowS) hB⟩
theorem StF.putO {m : List Int} {v' : Value} (h : NetW w NB base vs vo vl vf v1 us N) (hE : FarK NB wA rsA w (rows5 vs vo vl vf v1 us N)) (h0 : Below base w0 w) (hB : base ≤ NB) (hs : base ≤ w.heap.size)
    (hA : Appd w w' base 3 1 vo v' (N.of.length + m.length) (N.of.map (Value.int .i64) ++ m.map (Value.int .i64))) : StF w0 base wA rsA NB { N with of := N.of ++ m } (w'.setCell ⟨NB, 1, none⟩ v') :=
  ⟨_, _, _, _, _, _, h.putO hA.grown (rowZ_app hA.own) hA.lies, hE.trans (FarK.put (rs := rows5 vs vo vl vf v1 us N) 1 (by simp [rows5]) ⟨3, 1, v', (N.of ++ m).length, (N.of ++ m).map (Value.int .i64)⟩ hA.grown hA.lies), put_below h0 hs hA.grown (row_low h.rowO) hB⟩
theorem StF.putL {m : List Bool} {v' : Value} (h : NetW w NB base vs vo vl vf v1 us N) (hE : FarK NB wA rsA w (rows5 vs vo vl vf v1 us N)) (h0 : Below base w0 w) (hB : base ≤ NB) (hs : base ≤ w.heap.size)
    (hA : Appd w w' base 4 1 vl v' (N.last.length + m.length) (N.last.map Value.bool ++ m.map Value.bool)) : StF w0 base wA rsA NB { N with last := N.last ++ m } (w'.setCell ⟨NB, 2, none⟩ v') :=
  ⟨_, _, _, _, _, _, h.putL hA.grown (rowB_app hA.own) hA.lies, hE.trans (FarK.put (rs := rows5 vs vo vl vf v1 us N) 2 (by simp [rows5]) ⟨4, 1, v', (N.last ++ m).length, (N.last ++ m).map Value.bool⟩ hA.grown hA.lies), put_below h0 hs hA.grown (row_low h.rowL) hB⟩
theorem StF.put1 {m : List Int} {v' : Value} (h : NetW w NB base vs vo vl vf v1 us N) (hE : FarK NB wA rsA w (rows5 vs vo vl vf v1 us N)) (h0 : Below base w0 w) (hB : base ≤ NB) (hs : base ≤ w.heap.size)
    (hA : Appd w w' base 3 1 v1 v' (N.first.length + m.length) (N.first.map (Value.int .i64) ++ m.map (Value.int .i64))) : StF w0 base wA rsA NB { N with first := N.first ++ m } (w'.setCell ⟨NB, 4, none⟩ v') :=
  ⟨_, _, _, _, _, _, h.put1 hA.grown (rowZ_app hA.own) hA.lies, hE.trans (FarK.put (rs := rows5 vs vo vl vf v1 us N) 4 (by simp [rows5]) ⟨3, 1, v', (N.first ++ m).length, (N.first ++ m).map (Value.int .i64)⟩ hA.grown hA.lies), put_below h0 hs hA.grown (row_low h.row1) hB⟩
theorem StF.putF {x : Value} {l : List Int} {v' : Value} (h : NetW w NB base vs vo vl vf v1 us N) (hE : FarK NB wA rsA w (rows5 vs vo vl vf v1 us N)) (h0 : Below base w0 w) (hB : base ≤ NB) (hs : base ≤ w.heap.size)
    (hx : ElR (Far w NB (rows5 vs vo vl vf v1 us N)) w x l) (hA : Appd w w' base 23 1 vf v' (N.fol.length + 1) (us ++ [x])) : StF w0 base wA rsA NB { N with fol := N.fol ++ [l] } (w'.setCell ⟨NB, 3, none⟩ v') := by
  have hR : rows5 vs vo vl v' v1 (us ++ [x]) { N with fol := N.fol ++ [l] } = (rows5 vs vo vl vf v1 us N).set 3 ⟨23, 1, v', N.fol.length + 1, us ++ [x]⟩ := by simp [rows5]
  refine ⟨_, _, _, _, _, _, h.putF hx hA.grown hA.own hA.lies, ?_, put_below h0 hs hA.grown (row_low h.rowF) hB⟩
  rw [hR]
  exact hE.trans (FarK.put (rs := rows5 vs vo vl vf v1 us N) 3 (by simp [rows5]) ⟨23, 1, v', N.fol.length + 1, us ++ [x]⟩ hA.grown hA.lies)
/-- a slice of sets in a block of this kind -/
def ElS (P : Nat → Prop) (w : World) (v : Value) (S : List Stp) : Prop := ∃ a cap, v = .slice a S.length cap ∧ (0 < S.length → ∃ b off, a = some ⟨b, off, none⟩ ∧ P b ∧ ∀ i, i < S.length → w.cell? ⟨b, off + i * 4, none⟩ = some (.int .u64 (S.getD i default).a) ∧ w.cell? ⟨b, off + i * 4 + 1, none⟩ = some (.int .u64 (S.getD i default).b) ∧ w.cell? ⟨b, off + i * 4 + 2, none⟩ = some (.int .u64 (S.getD i default).c) ∧ w.cell? ⟨b, off + i * 4 + 3, none⟩ = some (.int .u64 (S.getD i default).d))
theorem ElS.at {P P' : Nat → Prop} {a : Option Addr} {n c : Nat} {S : List Stp} (h : ElS P w (.slice a n c) S) (hk : ∀ k, P k → P' k ∧ w'.heap[k]? = w.heap[k]?) (i : Nat) (hi : i < S.length) : ∃ b off, a = some ⟨b, off, none⟩ ∧ P' b ∧ w'.cell? ⟨b, off + i * 4, none⟩ = some (.int .u64 (S.getD i default).a) ∧ w'.cell? ⟨b, off + i * 4 + 1, none⟩ = some (.int .u64 (S.getD i default).b) ∧ w'.cell? ⟨b, off + i * 4 + 2, none⟩ = some (.int .u64 (S.getD i default).c) ∧ w'.cell? ⟨b, off + i * 4 + 3, none⟩ = some (.int .u64 (S.getD i default).d) := by
  obtain ⟨a', cap, e, h4⟩ := h
  simp only [Value.slice.injEq] at e
  obtain ⟨rfl, _, _⟩ := e
  obtain ⟨b, off, e, hP, hc⟩ := h4 (by omega)
  obtain ⟨x0, x1, x2, x3⟩ := hc i hi
  exact ⟨b, off, e, (hk b hP).1, (World.cell?_of_block (a := ⟨b, off + i * 4, none⟩) (hk b hP).2).trans x0, (World.cell?_of_block (a := ⟨b, off + i * 4 + 1, none⟩) (hk b hP).2).trans x1, (World.cell?_of_block (a := ⟨b, off + i * 4 + 2, none⟩) (hk b hP).2).trans x2, (World.cell?_of_block (a := ⟨b, off + i * 4 + 3, none⟩) (hk b hP).2).trans x3⟩
theorem RowS.el {B : Nat} {v : Value} {S : List Stp} (h : RowS w B v S) : ElS (fun k => B ≤ k ∧ k < w.heap.size) w v S := by
  have h' := h
  rcases h.2 with ⟨rfl, h0⟩ | ⟨g, cap, cur, rfl, hb, hg, h1, h2, h3, h4⟩
  · exact ⟨none, 0, by rw [h0], fun hp => by omega⟩
  · refine ⟨some ⟨g, 0, none⟩, cap, rfl, fun _ => ⟨g, 0, rfl, ⟨hb, (Array.getElem?_eq_some_iff.1 hg).1⟩, fun i hi => ?_⟩⟩
    have hc : ∀ j, j < 4 → w.cell? ⟨g, i * 4 + j, none⟩ = (setC (S.getD i default))[j]? := fun j hj => by
      rw [World.ownsRow.cellAt h' (i * 4 + j) (by omega)]
      exact flat_set4 S i hi j hj
    rw [Nat.zero_add]
    exact ⟨hc 0 (by omega), hc 1 (by omega), hc 2 (by omega), hc 3 (by omega)⟩
theorem NetW.freshS {B : Nat} {S : List Stp} {u : Value} (h : NetW w NB base vs vo vl vf v1 us N) (hr : RowS w' B u S) (hB : w.heap.size ≤ B) : ElS (Far w' NB (rows5 vs vo vl vf v1 us N)) w' u S := by
  obtain ⟨a, cap, e, h4⟩ := hr.el
  refine ⟨a, cap, e, fun hp => ?_⟩
  obtain ⟨b, off, e, hP, hc⟩ := h4 hp
  exact ⟨b, off, e, ⟨hP.2, fun hI => by have := h.own.ltO hI; omega⟩, hc⟩
theorem ElS.mono {P P' : Nat → Prop} {u : Value} {S : List Stp} (h : ElS P w u S) (hk : ∀ k, P k → P' k ∧ w'.heap[k]? = w.heap[k]?) : ElS P' w' u S := by
  obtain ⟨a, cap, rfl, h4⟩ := h
  refine ⟨a, cap, rfl, fun hp => ?_⟩
  obtain ⟨b, off, e, hP, hc⟩ := h4 hp
  refine ⟨b, off, e, (hk b hP).1, fun i hi => ?_⟩
  obtain ⟨x0, x1, x2, x3⟩ := hc i hi
  exact ⟨(World.cell?_of_block (a := ⟨b, off + i * 4, none⟩) (hk b hP).2).trans x0, (World.cell?_of_block (a := ⟨b, off + i * 4 + 1, none⟩) (hk b hP).2).trans x1, (World.cell?_of_block (a := ⟨b, off + i * 4 + 2, none⟩) (hk b hP).2).trans x2, (World.cell?_of_block (a := ⟨b, off + i * 4 + 3, none⟩) (hk b hP).2).trans x3⟩
end
theorem Src.four (w : World) (x0 x1 x2 x3 : Value) (t : TypeId) (b : Nat) (hb : b = w.heap.size) : Src (w.alloc (.cells #[x0, x1, x2, x3] t)) (.slice (some ⟨b, 0, none⟩) 1 1) 1 [x0, x1, x2, x3] := by
  subst hb
  refine .inr ⟨_, _, rfl, fun j u hj => ?_⟩
  rw [Addr.add_lit, Nat.zero_add, cell_of_row _ _ _ _ _ _ (heap_alloc_new w (.cells #[x0, x1, x2, x3] t))]
  simpa using hj
theorem rspsets_calls {C : Nat → Prop} {v : Value} {L : List Stp} {w : World} (h : SlX C w v L) (hC : ∀ b, C b → b < w.heap.size) (hl : L.length ≤ 512) : Calls Tryz.prog 42 #[v] w (RetS w (setsL L)) := by
  unfold setsL
  by_cases hz : (measV L).2 = 0
  · rw [if_pos hz]
    exact rsets_calls h hC hz hl
  · rw [if_neg hz]
    exact rsets_none h hC hz
/-- behind j rounds of the reference's inner loop -/
def refK (N : NetM) (token : Int) (L : List Stp) (j : Nat) : NetM :=
  ⟨N.sets ++ (setsL L).take j, N.of ++ List.replicate j token, N.last ++ (List.range j).map (fun i : Nat => decide ((i : Int) ∈ spI (elems (prtL L).last))),
    N.fol ++ (List.range j).map (fun i : Nat => mvd (spI (elems (folL i L))) N.sets.length), N.first⟩
theorem refK_more (N : NetM) (token : Int) (L : List Stp) (k : Nat) (hk : k < (setsL L).length) : refK N token L (k + 1) = { { { { refK N token L k with
    sets := (refK N token L k).sets ++ [(setsL L).getD k default] } with of := (refK N token L k).of ++ [token] } with last := (refK N token L k).last ++ [decide ((k : Int) ∈ spI (elems (prtL L).last))] } with fol := (refK N token L k).fol ++ [mvd (spI (elems (folL k L))) N.sets.length] } := by
  simp only [refK, List.range_succ, List.replicate_succ', List.map_append, List.map_cons, List.map_nil, List.append_assoc, NetM.mk.injEq, and_self, and_true]
  rw [List.take_succ_eq_append_getElem hk, List.getD_eq_getElem?_getD, List.getElem?_eq_getElem hk]
  rfl
theorem refK_zero (N : NetM) (token : Int) (L : List Stp) : refK N token L 0 = N := by simp [refK]
theorem refK_all (N : NetM) (token : Int) (L : List Stp) : { refK N token L (setsL L).length with first := (refK N token L (setsL L).length).first ++ mvd (spI (elems (prtL L).first)) N.sets.length } = addM N token L := by
  simp [refK, addM]
end Go.Proofs.YtmpjjnjggihojaaGreatDoor

/- Contract of the reference's Fuse. -/
namespace Go.Proofs.YtmpjjnjggihojaaGreatDoor
open Go.RowKit Go.Lib Go.Joins
theorem bumpS (w : World) (o : Obj) : Below w.heap.size w (w.alloc o) := (Below.refl w.heap.size w).alloc (Nat.le_refl _) o
set_option maxHeartbeats 8000000 in
set_option maxRecDepth 100000 in
theorem rFuse_calls {C : Nat → Prop} {v : Value} {T : List (List Stp)} {w : World} (h : Toks C w v T) (hC : ∀ b, C b → b < w.heap.size) (hT : FewT T) :
    Calls Tryz.prog 22 #[v] w (RetN w (fuseM T)) := by
  have HV := hidden h
  have HC := hidden hC
  have HF := hidden hT
  obtain ⟨av, cv, rfl, _⟩ := h
  have hb0 := ((Below.refl w.heap.size w).alloc (Nat.le_refl _) (.cells #[.slice none 0 0, .slice none 0 0, .slice none 0 0, .slice none 0 0, .slice none 0 0] 27)).alloc (by simp) (.cells #[.slice none 0 0, .slice none 0 0, .slice none 0 0, .slice none 0 0, .slice none 0 0] 27)
  have hn0 := NetW.nil (w.alloc (.cells #[.slice none 0 0, .slice none 0 0, .slice none 0 0, .slice none 0 0, .slice none 0 0] 27)) (w.heap.size + 1)
  have ho0 := heap_alloc2_old w (.cells #[.slice none 0 0, .slice none 0 0, .slice none 0 0, .slice none 0 0, .slice none 0 0] 27) (.cells #[.slice none 0 0, .slice none 0 0, .slice none 0 0, .slice none 0 0, .slice none 0 0] 27)
  rw [show (w.alloc (.cells #[.slice none 0 0, .slice none 0 0, .slice none 0 0, .slice none 0 0, .slice none 0 0] 27)).heap.size = w.heap.size + 1 by simp] at hn0
  have HB0 := hidden hb0
  have HN0 := hidden hn0
  have HO0 := hidden ho0
  obtain ⟨m, hm⟩ : ∃ m, m = T.length := ⟨_, rfl⟩
  have HM := hidden hm
  have hm12 := hm ▸ hT.len
  rw [← hm]
  clear hC hT hb0 hn0 ho0 hm
  go_enter Tryz.func22, Tryz.ntmps22
  go_wp2_with fail
  generalize hW : (w.alloc (.cells #[.slice none 0 0, .slice none 0 0, .slice none 0 0, .slice none 0 0, .slice none 0 0] 27)).alloc (.cells #[.slice none 0 0, .slice none 0 0, .slice none 0 0, .slice none 0 0, .slice none 0 0] 27) = W at *
  have HWs := hidden (show W.heap.size = w.heap.size + 2 by rw [← hW]; simp)
  clear hW
  go_loopw [4] (fun i wr => ∃ k vs vo vl vf v1 us, k ≤ m ∧ i = .int .i64 k ∧ NetW wr (w.heap.size + 1) (w.heap.size + 1) vs vo vl vf v1 us (fuseK T k) ∧ Below (w.heap.size + 1) W wr) (fun i _ => m - (Go.RowKit.intOf i).toNat)
  case atStart => exact ⟨0, _, _, _, _, _, _, by omega, rfl, HN0.out, Below.refl _ _⟩
  case round =>
    obtain ⟨k, vs, vo, vl, vf, v1, us, hk, rfl, hN, hB⟩ := hrel
    have HN := hidden hN
    have HB := hidden hB
    have HBw := hidden (HB0.out.trans (hB.mono (Nat.le_succ _)))
    clear hN hB HN0
    by_cases hlt : k < m
    · obtain ⟨b, off, a2, c2, rfl, hCb, hc, hx⟩ := HV.out.at (C' := C) (w' := wr) (fun b hb => ⟨hb, HBw.out.block b (HC.out b hb)⟩) k (HM.out ▸ hlt)
      have HX := hidden hx
      have HCB := hidden hCb
      have hL9 := HF.out.each k
      have hwd := HF.out.wide k
      have hln := fuseK_len HF.out k (by omega)
      have HBS := hidden (show w.heap.size + 1 ≤ wr.heap.size from by have := HB.out.size; have := HWs.out; omega)
      have HFK := hidden (show fuseK T (k + 1) = addM (fuseK T k) k (T.getD k []) from fuseK_more T k)
      obtain ⟨L, hL⟩ : ∃ L, L = T.getD k [] := ⟨_, rfl⟩
      obtain ⟨N, hNN⟩ : ∃ N, N = fuseK T k := ⟨_, rfl⟩
      rw [← hL] at HX hc hL9 hwd HFK
      rw [← hNN] at HN hln HFK
      have HWD := hidden hwd
      have HL9 := hidden hL9
      have HNL := hidden hln
      obtain ⟨as0, cs0, rfl⟩ := rowS_slice2 HN.out.rowS
      obtain ⟨k0, k1, k2, k3, k4⟩ := HN.out.cells
      clear hx hL9 hCb hwd hln hL hNN k1 k2 k3 k4
      go_wp2_with fail
      refine (rspsets_calls HX.out (fun b hb => Nat.lt_of_lt_of_le (HC.out b hb) (Nat.le_of_succ_le HBS.out)) (by have := HL9.out; omega)).mono ?_
      rintro e w1 ⟨v6, rfl, hr6, hb6⟩
      have HB6 := hidden hb6
      have HE6 := hidden (HN.out.freshS hr6 (Nat.le_refl _))
      have HN6 := hidden (HN.out.kept hb6)
      have HX6 := hidden (HX.out.below (C' := C) (w' := w1) fun b hb => ⟨hb, hb6.block b (Nat.lt_of_lt_of_le (HC.out b hb) (Nat.le_of_succ_le HBS.out))⟩)
      have hc6 := (hb6.cell (p := ⟨b, off + k * 3 + 1, none⟩) (Nat.lt_of_lt_of_le (HC.out b HCB.out) (Nat.le_of_succ_le HBS.out))).trans hc
      have HBS6 := hidden (Nat.le_trans HBS.out hb6.size)
      obtain ⟨a6, c6, rfl⟩ := rowS_slice2 hr6
      clear hr6 hb6 hc
      go_wp2_with fail
      refine (rLast_calls HX6.out (fun b hb => Nat.lt_of_lt_of_le (HC.out b hb) (Nat.le_of_succ_le HBS6.out)) HWD.out).mono ?_
      rintro e w2 ⟨v7, rfl, hr7, hb7⟩
      have HN7 := hidden (HN6.out.kept hb7)
      have HE7 := hidden (HE6.out.mono (FarK.below (rs := rows5 (.slice as0 N.sets.length cs0) vo vl vf v1 us N) hb7))
      have HZ7 := hidden (HN6.out.fresh hr7 (Nat.le_refl _))
      have HB7 := hidden (below_after HB6.out hb7)
      obtain ⟨a7, c7, hv7⟩ := hr7.form
      subst hv7
      have HBA := hidden (HB.out.trans (HB7.out.mono HBS.out))
      have HXA := hidden (HX6.out.below (C' := C) (w' := w2) fun b hb => ⟨hb, hb7.block b (Nat.lt_of_lt_of_le (HC.out b hb) (Nat.le_of_succ_le HBS6.out))⟩)
      have HCA := hidden ((hb7.cell (p := ⟨b, off + k * 3 + 1, none⟩) (Nat.lt_of_lt_of_le (HC.out b HCB.out) (Nat.le_of_succ_le HBS6.out))).trans hc6)
      clear hr7 hb7 hc6 HX HX6 HE6 HN6 HN k0 HB6 HB7 HBS HBS6 HBw
      obtain ⟨lst, hlst⟩ : ∃ l, l = spI (elems (prtL L).last) := ⟨_, rfl⟩
      obtain ⟨n, hn⟩ : ∃ n, n = (setsL L).length := ⟨_, rfl⟩
      obtain ⟨d, hd⟩ : ∃ d, d = N.sets.length := ⟨_, rfl⟩
      have HLST := hidden hlst
      have HNS := hidden hn
      have HD := hidden hd
      have HLL := hidden (show lst.length ≤ 256 from by rw [hlst]; exact sp_le _)
      have hn90 : n ≤ 90 := by rw [hn]; have := setsL_len L; have := HL9.out; omega
      rw [← hlst] at HZ7
      rw [← hlst, ← hn, ← hd]
      rw [← hn] at HE7
      rw [← hd] at HN7 HZ7 HE7
      have hrA : ∃ rsA, rsA = rows5 (.slice as0 d cs0) vo vl vf v1 us N := ⟨_, rfl⟩
      clear hlst hn hd
      obtain ⟨rsA, hrs⟩ := hrA
      have hS0 : StF W (w.heap.size + 1) w2 rsA (w.heap.size + 1) (refK N k L 0) w2 := by
        rw [refK_zero, hrs]
        exact ⟨_, _, _, _, _, _, HN7.out, FarK.refl _ _ _, HBA.out⟩
      rw [← hrs] at HE7 HZ7
      have HS0 := hidden hS0
      have HSL := hidden (show (setsL L).length = n from HNS.out.symm)
      clear hS0 hrs
      go_wp2_with fail
      go_loopw [8] (fun i wq => ∃ j, j ≤ n ∧ i = .int .i64 j ∧ StF W (w.heap.size + 1) w2 rsA (w.heap.size + 1) (refK N k L j) wq) (fun i _ => n - (Go.RowKit.intOf i).toNat)
      case atStart => exact ⟨0, by omega, rfl, HS0.out⟩
      case round =>
        obtain ⟨j, hj, rfl, hS⟩ := hrel
        obtain ⟨qs, qo, ql, qf, q1, qus, hNq, hFq, hBq⟩ := hS
        have hszq := hBq.size
        have HBK := hidden (fun (wx : World) (hB : Below (w.heap.size + 1) W wx) x (hx : x < w.heap.size + 1) => (hB.block x hx).trans (HBA.out.block x hx).symm)
        by_cases hjt : j < n
        · have hszq' : w.heap.size + 1 ≤ wr.heap.size := by have := HWs.out; omega
          have HNd := hidden (hNq.kept (w' := wr.drew) (Below.refl _ _).drew)
          have HFd := hidden (hFq.trans (FarK.below (w' := wr.drew) (Below.refl _ _).drew))
          have HLEN := hidden (show (refK N k L j).sets.length + 1 ≤ 1000000 ∧ (refK N k L j).of.length + 1 ≤ 1000000 ∧ (refK N k L j).last.length + 1 ≤ 1000000 ∧ (refK N k L j).fol.length + 1 ≤ 1000000 from by
            have := HNL.out
            simp only [refK, List.length_append, List.length_take, List.length_replicate, List.length_map, List.length_range]
            omega)
          have HMORE := hidden (refK_more N k L j (HSL.out.symm ▸ hjt))
          rw [← HLST.out, ← HD.out] at HMORE
          obtain ⟨b6, o6, rfl, _, s0, s1, s2, s3⟩ := HE7.out.at (w' := wr.drew) HFd.out j (HSL.out.symm ▸ hjt)
          generalize (setsL L).getD j default = sj at *
          obtain ⟨sk, sa, sb, sc, sd⟩ := sj
          dsimp only at s0 s1 s2 s3
          have hal : Below wr.heap.size wr (wr.alloc (.cells #[.int .u64 sa, .int .u64 sb, .int .u64 sc, .int .u64 sd] 74)).drew := (bumpS wr _).drew
          have HNa := hidden (hNq.kept hal)
          have HFa := hidden (hFq.trans (FarK.below hal))
          have HBa := hidden ((hBq.alloc hszq' (.cells #[.int .u64 sa, .int .u64 sb, .int .u64 sc, .int .u64 sd] 74)).drew)
          have HBSa := hidden (Nat.le_trans hszq' hal.size)
          obtain ⟨m0, m1, m2, m3, m4⟩ := HNd.out.cells
          obtain ⟨n0, n1, n2, n3, n4⟩ := HNa.out.cells
          obtain ⟨a5, c5, rfl⟩ := rowS_slice2 hNq.rowS
          have HI := hidden infoS
          clear hNq hFq hBq hal m1 m2 m3 m4 n1 n2 n3 n4 HS0
          go_wp2_with fail
          go_cut [] from 31 to 73 (fun wx => StF W (w.heap.size + 1) w2 rsA (w.heap.size + 1) { refK N k L j with sets := (refK N k L j).sets ++ [(⟨sk, sa, sb, sc, sd⟩ : Stp)] } wx)
          case first =>
            go_region_law ((refine step_app rfl _ _ rfl HI.out Tryz.underlying22 rfl (by decide) (by decide) rfl HNa.out.rowS rfl (Src.four _ (.int .u64 sa) (.int .u64 sb) (.int .u64 sc) (.int .u64 sd) 74 _ rfl) (by simp) (by simp [Value.oneCell']) HLEN.out.1 HBSa.out ?_; intro v9 w9 hA9; have HA9 := hidden hA9; have hob9 := HNa.out.still hA9.grown HNa.out.apartS; have r4 := cell_of_row w9 (w.heap.size + 1) 0 _ _ _ hob9; have hf9 := frozen_row hob9 0; clear hob9; obtain ⟨a9, c9, hv9⟩ := row_slice hA9.own; subst hv9; clear hA9))
            all_goals (have hS := StF.putS (S' := [⟨sk, sa, sb, sc, sd⟩]) HNa.out HFa.out HBa.out (Nat.le_refl _) HBSa.out HA9.out)
            all_goals (try go_wp2_with fail)
            all_goals go_meet
            all_goals exact hS
          case rest =>
            obtain ⟨qs, qo, ql, qf, q1, qus, hNq, hFq, hBq⟩ := hcut
            have hszc : w.heap.size + 1 ≤ wc.heap.size := by have := HWs.out; have := hBq.size; omega
            have hal := bumpS wc (.cells #[.int .i64 k] 3)
            have HNa := hidden (hNq.kept hal)
            have HFa := hidden (hFq.trans (FarK.below hal))
            have HBa := hidden (hBq.alloc hszc (.cells #[.int .i64 k] 3))
            have HBSa := hidden (Nat.le_trans hszc hal.size)
            obtain ⟨m0, m1, m2, m3, m4⟩ := hNq.cells
            obtain ⟨n0, n1, n2, n3, n4⟩ := HNa.out.cells
            obtain ⟨a5, c5, rfl⟩ := hNq.rowO.form
            have HI5 := hidden infoInt
            clear hNq hFq hBq hal m0 m2 m3 m4 n0 n2 n3 n4
            go_wp2_with (at_builtin; refine wpList_app rfl _ _ rfl HI5.out Tryz.underlying23 rfl (by decide) (by decide) rfl HNa.out.rowO rfl (Src.one wc (.int .i64 k) 3 _ rfl) (by simp) (by simp [Value.oneCell']) HLEN.out.2.1 HBSa.out ?_; intro v3 w3 hA; have HA3 := hidden hA; obtain ⟨a3, c3, hv3⟩ := row_slice hA.own; subst hv3; have hob3 := HNa.out.still hA.grown HNa.out.apartO; have l0 := cell_of_row w3 (w.heap.size + 1) 1 _ _ _ hob3; have hfz := frozen_row hob3 1; clear hA hob3 m1 n1)
            have HS3 := hidden (StF.putO (m := [(k : Int)]) HNa.out HFa.out HBa.out (Nat.le_refl _) HBSa.out HA3.out)
            clear l0 hfz
            generalize w3.setCell ⟨w.heap.size + 1, 1, none⟩ (.slice a3 ((refK N k L j).of.length + 1) c3) = w7 at *
            go_cut [] from 31 to 73 (fun wx => StF W (w.heap.size + 1) w2 rsA (w.heap.size + 1) { { { refK N k L j with sets := (refK N k L j).sets ++ [(⟨sk, sa, sb, sc, sd⟩ : Stp)] } with of := (refK N k L j).of ++ [(k : Int)] } with last := (refK N k L j).last ++ [decide ((j : Int) ∈ lst)] } wx)
            case first =>
              obtain ⟨qs, qo, ql, qf, q1, qus, hN4, hF4, hB4⟩ := HS3.out
              have HB4 := hidden hB4.drew
              have HN4 := hidden (hN4.kept (w' := w7.drew) (Below.refl _ _).drew)
              have HF4 := hidden (hF4.trans (FarK.below (w' := w7.drew) (Below.refl _ _).drew))
              have HB4b := hidden (show w.heap.size + 1 ≤ w7.drew.heap.size from Nat.le_trans (by have := HWs.out; omega) HB4.out.size)
              obtain ⟨a5, c5, rfl⟩ := row_slice hN4.rowL
              obtain ⟨m0, m1, m2, m3, m4⟩ := HN4.out.cells
              have HI6 := hidden infoB
              have HZ4 := hidden (show RdZ w7.drew.heap.size w7.drew (.slice a7 lst.length c7) lst from HZ7.out.mono fun k hk => ⟨(HF4.out k hk).1.1, (HF4.out k hk).2⟩)
              obtain ⟨bb, hbb⟩ : ∃ b, b = decide ((j : Int) ∈ lst) := ⟨_, rfl⟩
              have HBB := hidden hbb
              clear hB4 hN4 hF4 m0 m1 m3 m4 HS3 HA3 hbb
              go_region_law (first
                | (go_simp; refine (has11_calls _ _ lst (j : Int) HZ4.out).mono ?_;
                   rintro e w5 ⟨rfl, hb5⟩; rw [← HBB.out]; have hn5 := HN4.out.kept hb5; have HF5 := hidden (HF4.out.trans (FarK.below hb5)); obtain ⟨p0, p1, p2, p3, p4⟩ := hn5.cells; have HB5x := hidden (below_then HB4.out HB4b.out hb5); have HB5b := hidden (Nat.le_trans HB4b.out hb5.size);
                   have hal := bumpS w5 (.cells #[.bool bb] 4);
                   have HN6 := hidden (hn5.kept hal); have HF6 := hidden (HF5.out.trans (FarK.below hal)); have HB6 := hidden (HB5x.out.alloc HB5b.out (.cells #[.bool bb] 4)); have HB6b := hidden (Nat.le_trans HB5b.out hal.size); obtain ⟨q0, q1, q2, q3, q4⟩ := HN6.out.cells; clear hal hb5 hn5 p0 p1 p3 p4 q0 q1 q3 q4; dsimp only)
                | (refine step_app rfl _ _ rfl HI6.out Tryz.underlying24 rfl (by decide) (by decide) rfl HN6.out.rowL rfl (Src.one _ (.bool bb) 4 _ rfl) (by simp) (by simp [Value.oneCell']) HLEN.out.2.2.1 HB6b.out ?_;
                   intro v9 w9 hA9; have HA9 := hidden hA9; have hob9 := HN6.out.still hA9.grown HN6.out.apartL; have r4 := cell_of_row w9 (w.heap.size + 1) 2 _ _ _ hob9; have hf9 := frozen_row hob9 2; clear hob9; obtain ⟨a9, c9, hv9⟩ := row_slice hA9.own; subst hv9; clear hA9))
              all_goals (have hS := StF.putL (m := [bb]) HN6.out HF6.out HB6.out (Nat.le_refl _) HB6b.out HA9.out)
              all_goals (try go_wp2_with fail)
              all_goals go_meet
              all_goals exact (by rw [← HBB.out]; exact hS)
            case rest =>
              obtain ⟨qs, qo, ql, qf, q1, qus, hN4, hF4, hB4⟩ := hcut
              have HB4 := hidden hB4.drew
              have HN4 := hidden (hN4.kept (w' := wc.drew) (Below.refl _ _).drew)
              have HF4 := hidden (hF4.trans (FarK.below (w' := wc.drew) (Below.refl _ _).drew))
              have HB4b := hidden (show w.heap.size + 1 ≤ wc.drew.heap.size from Nat.le_trans (by have := HWs.out; omega) HB4.out.size)
              obtain ⟨a5, c5, rfl⟩ := row_slice hN4.rowF
              obtain ⟨m0, m1, m2, m3, m4⟩ := HN4.out.cells
              have HI7 := hidden infoZZ
              have HV4 := hidden (HXA.out.below (C' := C) (w' := wc.drew) fun x hx => ⟨hx, HBK.out wc.drew HB4.out x (Nat.lt_succ_of_lt (HC.out x hx))⟩)
              have hc4 := (World.cell?_of_block (a := ⟨b, off + k * 3 + 1, none⟩) (HBK.out wc.drew HB4.out b (Nat.lt_succ_of_lt (HC.out b HCB.out)))).trans HCA.out
              have HL1 := hidden (sp_le (folL j L))
              have hj90 : j ≤ 90 := by omega
              clear hB4 hN4 hF4 m0 m1 m2 m4 HS3 HA3
              go_wp2_with fail
              go_region_law (first
                | (go_simp; refine (rFollow_calls (j : Int) HV4.out (fun x hx => Nat.lt_of_lt_of_le (HC.out x hx) (Nat.le_of_succ_le HB4b.out)) HWD.out).mono ?_;
                   rintro e w5 ⟨v5, rfl, hr5, hb5⟩; have HR5 := hidden hr5; have HB5 := hidden (below_then HB4.out HB4b.out hb5); have HB5b := hidden (Nat.le_trans HB4b.out hb5.size); have hn5 := HN4.out.kept hb5; have HN5 := hidden hn5; have HF5 := hidden (HF4.out.trans (FarK.below hb5)); obtain ⟨p0, p1, p2, p3, p4⟩ := hn5.cells; obtain ⟨a6, c6, hv6⟩ := hr5.form; subst hv6; clear hr5 hb5 hn5 p0 p1 p2 p4; dsimp only)
                | (go_simp; refine (rmoved_calls (d : Int) HR5.out.reads (by have := HL1.out; omega)).mono ?_;
                   rintro e w6 ⟨v7, rfl, hr7, hb7⟩; have hn7 := HN5.out.kept hb7; have HX7 := hidden (HN5.out.fresh hr7 (Nat.le_refl _)); have HF7 := hidden (HF5.out.trans (FarK.below hb7)); obtain ⟨p0, p1, p2, p3, p4⟩ := hn7.cells; obtain ⟨a8, c8, hv8⟩ := hr7.form; subst hv8; have HB7 := hidden (below_then HB5.out HB5b.out hb7); have HB7b := hidden (Nat.le_trans HB5b.out hb7.size);
                   have hal := bumpS w6 (.cells #[.slice a8 (mvd (spI (elems (folL j L))) d).length c8] 23);
                   have HN8 := hidden (hn7.kept hal); have HF8 := hidden (HF7.out.trans (FarK.below hal)); have HX8 := hidden (far_kept HX7.out hal); have HB8 := hidden (HB7.out.alloc HB7b.out (.cells #[.slice a8 (mvd (spI (elems (folL j L))) d).length c8] 23)); have HB8b := hidden (Nat.le_trans HB7b.out hal.size); obtain ⟨q0, q1', q2, q3, q4⟩ := HN8.out.cells;
                   clear hal hr7 hb7 hn7 p0 p1 p2 p4 q0 q1' q2 q4; dsimp only)
                | (refine step_app rfl _ _ rfl HI7.out Tryz.underlying25 rfl (by decide) (by decide) rfl HN8.out.rowF rfl (Src.one _ (.slice a8 (mvd (spI (elems (folL j L))) d).length c8) 23 _ rfl) (by simp) (by simp [Value.oneCell']) HLEN.out.2.2.2 HB8b.out ?_;
                   intro v9 w9 hA9; have HA9 := hidden hA9; have hob9 := HN8.out.still hA9.grown HN8.out.apartF; have r4 := cell_of_row w9 (w.heap.size + 1) 3 _ _ _ hob9; have hf9 := frozen_row hob9 3; clear hob9; obtain ⟨a9, c9, hv9⟩ := row_slice hA9.own; subst hv9; clear hA9))
              all_goals (have hS := StF.putF HN8.out HF8.out HB8.out (Nat.le_refl _) HB8b.out HX8.out HA9.out)
              all_goals go_wp2_with fail
              all_goals go_roundw
              all_goals first
                | (exact ⟨j + 1, by omega, by go_num, by rw [HMORE.out]; exact hS⟩)
                | (simp [Go.RowKit.intOf]; omega)
        · have e : j = n := by omega
          subst e
          have hszc : w.heap.size + 1 ≤ wr.heap.size := by have := HWs.out; omega
          have HB4 := hidden hBq.drew
          have HN4 := hidden (hNq.kept (w' := wr.drew) (Below.refl _ _).drew)
          have HB4b := hidden (show w.heap.size + 1 ≤ wr.drew.heap.size from hszc)
          obtain ⟨a5, c5, rfl⟩ := hNq.row1.form
          obtain ⟨m0, m1, m2, m3, m4⟩ := HN4.out.cells
          have HI7 := hidden infoInt
          have HV4 := hidden (HXA.out.below (C' := C) (w' := wr.drew) fun x hx => ⟨hx, HBK.out wr.drew HB4.out x (Nat.lt_succ_of_lt (HC.out x hx))⟩)
          have hc4 := (World.cell?_of_block (a := ⟨b, off + k * 3 + 1, none⟩) (HBK.out wr.drew HB4.out b (Nat.lt_succ_of_lt (HC.out b HCB.out)))).trans HCA.out
          have HL1 := hidden (sp_le (prtL L).first)
          have HLF := hidden (show (refK N k L j).first.length + (mvd (spI (elems (prtL L).first)) d).length ≤ 1000000 from by
            have := HNL.out.2.2.2.2
            have := HL1.out
            rw [mvd_len]
            simp only [refK]
            omega)
          have HALL := hidden (refK_all N k L)
          rw [HSL.out, ← HD.out] at HALL
          clear hNq hFq hBq m0 m1 m2 m3 HS0
          go_wp2_with fail
          go_region_law (first
            | (go_simp; refine (rFirst_calls HV4.out (fun x hx => Nat.lt_of_lt_of_le (HC.out x hx) (Nat.le_of_succ_le HB4b.out)) HWD.out).mono ?_;
               rintro e w5 ⟨v5, rfl, hr5, hb5⟩; have HR5 := hidden hr5; have HB5 := hidden (below_then HB4.out HB4b.out hb5); have HB5b := hidden (Nat.le_trans HB4b.out hb5.size); have hn5 := HN4.out.kept hb5; have HN5 := hidden hn5; obtain ⟨p0, p1, p2, p3, p4⟩ := hn5.cells; obtain ⟨a6, c6, hv6⟩ := hr5.form; subst hv6; clear hr5 hb5 hn5 p0 p1 p2 p3; dsimp only)
            | (go_simp; refine (rmoved_calls (d : Int) HR5.out.reads (by have := HL1.out; omega)).mono ?_;
               rintro e w6 ⟨v7, rfl, hr7, hb7⟩; have HR7 := hidden hr7; have hn7 := HN5.out.kept hb7; have HN7 := hidden hn7; obtain ⟨p0, p1, p2, p3, q4⟩ := hn7.cells; obtain ⟨a8, c8, hv8⟩ := hr7.form; subst hv8; have HB7 := hidden (below_then HB5.out HB5b.out hb7); have HB7b := hidden (Nat.le_trans HB5b.out hb7.size); clear hr7 hb7 hn7 p0 p1 p2 p3; dsimp only)
            | (refine step_app rfl _ _ rfl HI7.out Tryz.underlying23 rfl (by decide) (by decide) rfl HN7.out.row1 rfl (Src.row HR7.out) (by simp) (fun _ hz => ints_one hz) HLF.out HB7b.out ?_;
               intro v9 w9 hA9; have HA9 := hidden hA9; have hob9 := HN7.out.still hA9.grown HN7.out.apart1; have r4 := cell_of_row w9 (w.heap.size + 1) 4 _ _ _ hob9; have hf9 := frozen_row hob9 4; clear hob9; obtain ⟨a9, c9, hv9⟩ := row_slice hA9.own; subst hv9; clear hA9))
          all_goals (have hS := StF.put1 HN7.out (FarK.refl _ _ _) HB7.out (Nat.le_refl _) HB7b.out HA9.out)
          all_goals rw [HALL.out] at hS
          all_goals obtain ⟨zs, zo, zl, zf, z1, zus, hNz, _, hBz⟩ := hS
          all_goals go_wp2_with fail
          all_goals go_roundw
          all_goals first
            | (exact ⟨k + 1, zs, zo, zl, zf, z1, zus, by omega, by go_num, by rw [HFK.out]; exact hNz, hBz⟩)
            | (simp [Go.RowKit.intOf]; omega)
    · have e : k = m := by omega
      subst e
      have HE := hidden (HM.out ▸ fuseK_all T : fuseK T k = fuseM T)
      rw [HE.out] at HN
      have HO1 := hidden ((HB.out.block w.heap.size (by omega)).trans HO0.out)
      go_wp2_with (first
        | (refine wpList_load_row rfl 27 (.tmp 3) rfl (w.heap.size + 1) rfl 27 #[vs, vo, vl, vf, v1] (0, 0) _ HN.out.obj Tryz.underlying27 rfl (by kernel_rfl) ?_)
        | (refine store_row (B := w.heap.size) (cs := #[vs, vo, vl, vf, v1]) (old := #[.slice none 0 0, .slice none 0 0, .slice none 0 0, .slice none 0 0, .slice none 0 0]) (t := 27) rfl (ty := 27) (x := .tmp 2) (y := .tmp 86) rfl rfl rfl HO1.out 5 (by kernel_rfl) rfl rfl (five_one HN.out) ?_; intro w2 hw2 hg2; have HL2 := hidden hw2; have HG2 := hidden hg2; clear hw2 hg2))
      have HW2 := hidden (HN.out.over HG2.out (Nat.lt_succ_self _) (Nat.le_refl _) (nil_cells HO1.out))
      have HB2 := hidden (HBw.out.grown HG2.out HBw.out.size (fun j e => by simp only [Option.some.injEq] at e; omega))
      exact ret_net Tryz.results22 rfl rfl HL2.out ⟨_, _, _, _, _, rfl, HW2.out.reads, HB2.out⟩
end Go.Proofs.YtmpjjnjggihojaaGreatDoor

/- What every statement of stage 12 knows besides: the chapter's example. -/
namespace Go.Proofs.YtmpjjnjggihojaaGreatDoor
open Go.RowKit Go.Lib Go.Joins
theorem setsL_wide {L : List Stp} (h : ∀ s ∈ L, s.wide) : ∀ s ∈ setsL L, s.wide := by
  intro s hs
  unfold setsL at hs
  split at hs
  · exact h s (List.mem_filter.1 hs).1
  · cases hs
theorem fuseK_wide {T : List (List Stp)} (h : ∀ i, ∀ s ∈ T.getD i [], s.wide) : ∀ k, ∀ s ∈ (fuseK T k).sets, s.wide
  | 0, s, hs => by simp [fuseK] at hs
  | k + 1, s, hs => by
    rw [fuseK_more] at hs
    rcases List.mem_append.1 hs with hs | hs
    · exact fuseK_wide h k s hs
    · exact setsL_wide (h k) s hs
theorem fuseM_wide {T : List (List Stp)} (h : ∀ i, ∀ s ∈ T.getD i [], s.wide) : ∀ s ∈ (fuseM T).sets, s.wide := by
  rw [← fuseK_all]
  exact fuseK_wide h _
theorem RdNet.one {B : Nat} {w : World} {vs vo vl vf v1 : Value} {N : NetM} (h : RdNet B w vs vo vl vf v1 N) : (#[vs, vo, vl, vf, v1] : Array Value).all (·.oneCell') = true := by
  obtain ⟨_, _, rfl⟩ := h.sets.form
  obtain ⟨_, _, rfl⟩ := h.of.form
  obtain ⟨_, _, rfl⟩ := h.last.form
  obtain ⟨_, _, rfl⟩ := h.fol.form
  obtain ⟨_, _, rfl⟩ := h.first.form
  simp [Value.oneCell']
structure KW (w0 : World) (n0 : Nat) (vs vo vl vf v1 : Value) (w : World) : Prop where
  b : Below w0.heap.size w0 w
  n : w.heap[n0]? = some (.cells #[vs, vo, vl, vf, v1] 27 (0, 0))
  r : RdNet w.heap.size w vs vo vl vf v1 (fuseM twoT)
theorem KW.more {w0 w w' : World} {n0 : Nat} {vs vo vl vf v1 : Value} (h : KW w0 n0 vs vo vl vf v1 w) (hb : Below w.heap.size w w') : KW w0 n0 vs vo vl vf v1 w' :=
  ⟨below_after h.b hb, (hb.block n0 (Array.getElem?_eq_some_iff.1 h.n).1).trans h.n, h.r.later hb⟩
theorem KW.cells {w0 w : World} {n0 : Nat} {vs vo vl vf v1 : Value} (h : KW w0 n0 vs vo vl vf v1 w) : w.cell? ⟨n0, 0, none⟩ = some vs ∧ w.cell? ⟨n0, 1, none⟩ = some vo ∧ w.cell? ⟨n0, 2, none⟩ = some vl ∧ w.cell? ⟨n0, 3, none⟩ = some vf ∧ w.cell? ⟨n0, 4, none⟩ = some v1 :=
  ⟨cell_of_row _ _ 0 _ _ _ h.n, cell_of_row _ _ 1 _ _ _ h.n, cell_of_row _ _ 2 _ _ _ h.n, cell_of_row _ _ 3 _ _ _ h.n, cell_of_row _ _ 4 _ _ _ h.n⟩
def Rz (n : Nat) (l : List Int) (v : Value) (w : World) : Prop := ∃ a c, v = .slice a n c ∧ RdZ w.heap.size w (.slice a n c) l
theorem rz_lits (w : World) (l : List Int) (b n : Nat) (hb : b = w.heap.size) (hn : n = l.length) (hl : n ≤ 1000) (cur : Array Value) (hc : cur = (l.map (Value.int .i64)).toArray) : Rz n l (.slice (some ⟨b, 0, none⟩) n n) (w.alloc (.cells cur 3)) := by
  have h := rowz_lits w l b n hb hn hl cur hc
  exact ⟨_, _, rfl, h.reads⟩
attribute [local go_sem] evalR_tmp evalR_const evalR_global evalR_func
end Go.Proofs.YtmpjjnjggihojaaGreatDoor
